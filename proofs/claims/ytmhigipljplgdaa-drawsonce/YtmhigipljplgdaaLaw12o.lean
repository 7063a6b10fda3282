/-
  The walk of a law of layer 12, over whatever contracts the program's functions keep: drawn one by one, all come, in order, and then none. No statement of the seed is proved here.
-/
import Derived.Test.YtmhigipljplgdaaDrI
import Derived.Test.YtmhigipljplgdaaKd2
import Derived.Test.YtmhigipljplgdaaHeldS
import Derived.Test.YtmhigipljplgdaaMemV
import Derived.Great.CaseRows
namespace Go.Proofs.Ytmhigipljplgdaa
open Go.RowKit
set_option linter.unusedVariables false

/-- A slice's length. -/
def lenS : Value → Nat
  | .slice _ n _ => n
  | _ => 0
/-- A literal of one key. -/
theorem wpList_lit1 {ops : Array Oper} {rest : List Oper} {o : Oper} {a : Act} {w : World} {Q : Exit → Act → World → Prop} (hg : o.guard = none) (t : Nat) (ho : o.op = .buildSlice 22 1 #[(0, .tmp t)]) (k : List UInt8) (hk : k.length = 32)
    (hx : a.eval (.tmp t) = .agg (bvs k).toArray)
    (h : ∀ w', RdK w' (some ⟨w.heap.size, 0, none⟩) 1 1 [k] → Kept [] w w' → wpList Try.prog ops Q rest (a.put o.dst (.slice (some ⟨w.heap.size, 0, none⟩) 1 1)) w') : wpList Try.prog ops Q (o :: rest) a w := by
  have hz : ((Try.prog.info? 29).bind (·.zero)).isSome = true := by rw [zero32]; rfl
  refine Great.wpList_buildRows (s := 32) (vs := [.agg (bvs k).toArray]) hg 22 29 #[(0, .tmp t)] ho (fun _ => t) _ rfl _ rfl Try.underlying22 size32 hz (by omega) (by simp) (by simp) (by simp) ?_ ?_ ?_
  · intro v hv
    simp at hv
    subst hv
    simp [Value.cells, bvs, hk]
  · intro i hi
    have : i = 0 := by simpa using hi
    subst this
    exact hx
  · refine h _ (RdK.lit w 29 _ 1 [k] ?_ rfl (All32.one hk) (by simp [maxLen])) ((Kept.refl [] w).alloc _)
    simp [Value.cells]

set_option maxRecDepth 100000 in
set_option maxHeartbeats 8000000 in
theorem once12_walk (Dr : World → Nat → List Nat → Ks → Prop) (HD : DrHas Dr)
    (HW : ∀ w : World, Calls Try.prog 4 #[] w fun e w' => e = .returned (.bool true) ∧ Kept [] w w')
    (A : Option Addr) (n c : Nat) (ks : Ks) (A' : Option Addr) (n' c' : Nat) (ms : Ks) (w : World) (hr : RdK w A n c ks) (hr' : RdK w A' n' c' ms) :
    Calls Try.prog 3 #[.slice A n c, .slice A' n' c'] w fun e w' => e = .returned (.bool true) ∧ Kept [] w w' := by
  have HR := Lib.hid hr
  have HM := Lib.hid hr'
  have b1 := hr.cap
  have b2 := hr.most
  unfold maxLen at b2
  have b3 := hr'.cap
  have b4 := hr'.most
  unfold maxLen at b4
  have HNl := Lib.hid hr.len
  have HMl := Lib.hid hr'.len
  clear hr hr'
  go_enter Try.func3, Try.ntmps3
  go_wp2_with fail
  refine (HW _).mono ?_
  rintro e w1 ⟨rfl, hk1⟩
  have HK1 := Lib.hid hk1
  clear hk1
  rcases (by omega : 100 < n ∨ (n ≤ 100 ∧ 100 < n') ∨ (n ≤ 100 ∧ n' ≤ 100)) with hb | ⟨hb, hb'⟩ | ⟨hb, hb'⟩
  · go_wp2
    go_ret
    exact ⟨rfl, HK1.out⟩
  · have h1 : ¬ 100 < n := by omega
    go_wp2
    go_ret
    exact ⟨rfl, HK1.out⟩
  have h1 : ¬ 100 < n := by omega
  have h2 : ¬ 100 < n' := by omega
  go_wp2_with fail
  refine (HD.new A n c ks _ (HR.out.kept0 HK1.out) (by omega)).mono ?_
  rintro e w3 ⟨p, F, rfl, hd3, hk3, hF3⟩
  have HD3 := Lib.hid hd3
  have HK3 := Lib.hid (HK1.out.andThen hk3)
  have HF3 : Hid (∀ i, i ∈ F → w.heap.size ≤ i) := Lib.hid (fun i hi => by have := hF3 i hi; have := HK1.out.size; omega)
  have HOm : Hid (0 < n' → Off A' F) := Lib.hid (fun h a' e' hin => by
    obtain ⟨bk, ok, ek, hbk, _⟩ := HM.out.at_ h
    rw [e'] at ek
    injection ek with ek
    have h3 := HF3.out _ hin
    rw [ek] at h3
    have : w.heap.size ≤ bk := h3
    omega)
  clear hd3 hk3 hF3 HK1
  go_wp2_with fail
  refine (HD.more _ p F ks A' n' c' ms HD3.out (HM.out.kept0 HK3.out) HOm.out (by rw [HNl.out]; omega)).mono ?_
  rintro e w4 ⟨rfl, F4, hd4, hk4, hF4⟩
  have HD4 := Lib.hid hd4
  have HK4 : Hid (Kept [] w w4) := Lib.hid (HK3.out.trans hk4 (fun i hi => .inr (HF3.out i hi)))
  have HF4 : Hid (∀ i, i ∈ F4 → w.heap.size ≤ i) := Lib.hid (fun i hi => (hF4 i hi).elim (fun h => HF3.out i h) (fun h => by have := HK3.out.size; omega))
  clear hd4 hk4 hF4 HD3 HK3 HF3 HOm
  obtain ⟨N, hN⟩ : ∃ N, N = n + n' := ⟨_, rfl⟩
  have HN : Hid ((ks ++ ms).length = N) := Lib.hid (by rw [List.length_append, HNl.out, HMl.out, hN])
  have hN2 : N ≤ 200 := by omega
  clear hN
  have hn1 : decide ((100 : Int) < (n : Int)) = false := decide_eq_false (by omega)
  have hn2 : decide ((100 : Int) < (n' : Int)) = false := decide_eq_false (by omega)
  go_wp2
  try rw [hn1]
  try rw [hn2]
  try rw [show (false || false) = false from rfl]
  clear hn1 hn2
  go_loopw [6] (fun lv wr => ∃ (dn rs : Ks) (F : List Nat), Hid (dn ++ rs = ks ++ ms) ∧ Hid (lenS lv = dn.length) ∧ Hid (OwK wr lv dn) ∧ Hid (∀ g, lv.ownBlock = some g → w.heap.size ≤ g ∧ g ∉ F) ∧ Hid (Dr wr p F rs) ∧ Hid (∀ i, i ∈ F → w.heap.size ≤ i) ∧ Kept [] w wr) (fun lv _ => N - lenS lv)
  case atStart => exact ⟨[], ks ++ ms, F4, Lib.hid rfl, Lib.hid rfl, Lib.hid (OwK.nil _), Lib.hid (by simp [Value.ownBlock]), HD4, HF4, HK4.out⟩
  case round =>
    clear HD4 HF4 HK4
    obtain ⟨dn, rs, F, HE, HL, HO, HB, HDr, HF, hK⟩ := hrel
    have HKw := Lib.hid hK
    clear hK
    obtain ⟨AL, nL, cL, hlv, hrL, _⟩ := HO.out.form
    cases hlv
    have hln : nL = dn.length := HL.out
    have hcL := hrL.cap
    have hmL := hrL.most
    unfold maxLen at hmL
    have HEl : Hid (dn.length + rs.length = N) := Lib.hid (by have := congrArg List.length HE.out; rw [List.length_append] at this; rw [this]; exact HN.out)
    have hLN : nL ≤ N := by have := HEl.out; omega
    clear hrL
    rcases rs with _ | ⟨k, rs⟩
    · obtain rfl : nL = N := by have := HEl.out; simp at this; omega
      have HOF : Hid (0 < nL → Off AL F) := Lib.hid (fun h a' e' hin => by subst e'; exact (HB.out a'.block rfl).2 hin)
      have HE0 : Hid (dn = ks ++ ms) := Lib.hid (by have := HE.out; rwa [List.append_nil] at this)
      have HR0 := Lib.hid HO.out.rd
      clear HE HL HO HB HEl hln
      go_wp2_with fail
      refine (HD.left_ _ p F [] HDr.out (by simp)).mono ?_
      rw [List.length_nil]
      rintro e w5 ⟨rfl, hk5⟩
      have HK5 := Lib.hid (HKw.out.andThen hk5)
      have HD5 := Lib.hid (HD.kept0 HDr.out hk5)
      have HR5 := Lib.hid (HR0.out.kept0 hk5)
      clear hk5 HKw HDr HR0
      go_wp2_with fail
      refine (HD.none_ _ p F HD5.out).mono ?_
      rintro e w6 ⟨rfl, F', hd6, hk6, hF6⟩
      have HR6 := Lib.hid (HR5.out.kept hk6 HOF.out)
      have HK6 : Hid (Kept [] w w6) := Lib.hid (HK5.out.trans hk6 (fun i hi => .inr (HF.out i hi)))
      clear hd6 hk6 hF6 HD5 HK5 HR5 HOF HF
      go_wp2_with (with_reducible change wpList _ _ _ (⟨_, Op.alloc _, _, _, _, _⟩ :: _) _ _; refine wpList_alloc_blk rfl 29 rfl _ zero32 ?_)
      intro w7 hV7 hk7 hs7
      obtain ⟨y, hy⟩ : ∃ y, y = w6.heap.size := ⟨_, rfl⟩
      rw [← hy] at hV7 hs7 ⊢
      have ly : w6.heap.size ≤ y := by omega
      clear hy hs7
      go_wp2_with (with_reducible change wpList _ _ _ (⟨_, Op.store _ _ _, _, _, _, _⟩ :: _) _ _; refine wpList_store_blk rfl 29 (.tmp 9) (.tmp 48) rfl y (zb 32) rfl rfl 29 (zb 32) hV7 zb_size rfl zb_one ?_)
      intro w8 hV8 hk8 hs8
      have hK8 : Kept [] w6 w8 := hk7.trans hk8 (fun i hi => .inr (by have := List.mem_singleton.1 hi; omega))
      have HK8 := Lib.hid (HK6.out.andThen hK8)
      have HR8 := Lib.hid (HR6.out.kept0 hK8)
      clear hV7 hk7 hV8 hk8 hs8 hK8 HK6 HR6 ly
      have HO8 := Lib.hid (OwK.empty w8)
      have HA8 : Hid (Kept [] w8 (w8.alloc (.cells #[] 29))) := Lib.hid ((Kept.refl [] w8).alloc _)
      go_wp2_with (at_builtin; refine wpList_append_keys rfl (.tmp 51) (.tmp 52) rfl (.slice (some ⟨w8.heap.size, 0, none⟩) 0 0) [] rfl HO8.out A n c ks rfl (HR.out.kept0 (HK8.out.andThen HA8.out)) (by simp only [List.length_nil]; omega) ?_)
      intro v9 w9 ho9 hk9 hm9
      obtain ⟨hK9, hb9⟩ := app_new HA8.out (by intro g hg; simp [Value.ownBlock] at hg; omega) hk9 hm9
      have HO9 := Lib.hid ho9
      have HK9 := Lib.hid (HK8.out.andThen hK9)
      have HR9 := Lib.hid (HR8.out.kept0 hK9)
      have HB9 : Hid (∀ g, v9.ownBlock = some g → w8.heap.size ≤ g) := Lib.hid hb9
      have HQ9 := Lib.hid hK9
      clear ho9 hk9 hm9 hK9 hb9 HO8 HA8
      go_wp2_with (at_builtin; refine wpList_append_keys rfl (.tmp 53) (.tmp 54) rfl v9 ks rfl HO9.out A' n' c' ms rfl (HM.out.kept0 HK9.out) (by rw [HNl.out]; omega) ?_)
      intro v10 w10 ho10 hk10 hm10
      obtain ⟨hK10, _⟩ := app_new HQ9.out HB9.out hk10 hm10
      obtain ⟨A10, n10, c10, rfl, hr10, _⟩ := ho10.form
      have HR10 := Lib.hid hr10
      have HK10 := Lib.hid (HK8.out.andThen hK10)
      have HRd : Hid (RdK w10 AL nL cL (ks ++ ms)) := Lib.hid (by
        rw [← HE0.out]
        exact HR8.out.kept0 hK10)
      clear ho10 hk10 hm10 hK10 hr10 HO9 HK9 HR9 HB9 HQ9 HK8 HR8
      go_wp2_with fail
      refine (same12_any _ _ _ _ _ _ _ _ HRd.out HR10.out).mono ?_
      rintro e w11 ⟨rfl, m11, rfl⟩
      have HK11 := Lib.hid (HK10.out.andThen ((Kept.refl [] w10).drewN m11))
      clear HK10 HRd HR10
      go_wp2
      go_ret
      exact ⟨rfl, HK11.out⟩
    · have hk32 : k.length = 32 := (HR.out.each.append HM.out.each) k (by rw [← HE.out]; simp)
      have Hk := Lib.hid hk32
      have Hsz : Hid ((Try.prog.info? 29).map (·.size) = some (bvs k).length) := Lib.hid (size_of_len size32 hk32)
      have Hzl : Hid ((zb 32).length = (bvs k).length) := Lib.hid (zb_len hk32)
      clear hk32
      obtain ⟨q, hq⟩ : ∃ q, (k :: rs).length = q := ⟨_, rfl⟩
      have hq0 : 0 < q := by rw [← hq]; simp
      have hq2 : q ≤ 200 := by have := HEl.out; rw [hq] at this; omega
      have h200 : nL ≤ 200 := by omega
      go_wp2_with fail
      refine (HD.left_ _ p F (k :: rs) HDr.out (by rw [hq]; omega)).mono ?_
      rw [hq]
      rintro e w5 ⟨rfl, hk5⟩
      have HK5 := Lib.hid (HKw.out.andThen hk5)
      have HD5 := Lib.hid (HD.kept0 HDr.out hk5)
      have HO5 := Lib.hid (HO.out.kept0 hk5)
      clear hk5 HKw HDr HO hq HL hln
      go_wp2_with fail
      refine (HD.next _ p F k rs HD5.out).mono ?_
      rintro e w6 ⟨rfl, F', hd6, hk6, hF6⟩
      have HO6 := Lib.hid (HO5.out.kept hk6 (fun g hg => (HB.out g hg).2))
      have HB6 : Hid (∀ g, (Value.slice AL nL cL).ownBlock = some g → w.heap.size ≤ g ∧ g ∉ F') := Lib.hid (fun g hg => ⟨(HB.out g hg).1, fun hin => (hF6 g hin).elim (HB.out g hg).2 (fun h => by
        obtain ⟨_, _, _, _, _, hlt⟩ := HO5.out.form
        have := hlt g hg
        omega)⟩)
      have HD6 := Lib.hid hd6
      have HK6 : Hid (Kept [] w w6) := Lib.hid (HK5.out.trans hk6 (fun i hi => .inr (HF.out i hi)))
      have HF6 : Hid (∀ i, i ∈ F' → w.heap.size ≤ i) := Lib.hid (fun i hi => (hF6 i hi).elim (fun h => HF.out i h) (fun h => by have := HK5.out.size; omega))
      clear hd6 hk6 hF6 HD5 HK5 HO5 HB HF
      go_wp2_with (with_reducible change wpList _ _ _ (⟨_, Op.alloc _, _, _, _, _⟩ :: _) _ _; refine wpList_alloc_blk rfl 29 rfl _ zero32 ?_)
      intro w7 hV7 hk7 hs7
      obtain ⟨y, hy⟩ : ∃ y, y = w6.heap.size := ⟨_, rfl⟩
      rw [← hy] at hV7 hs7 ⊢
      have ly : w6.heap.size ≤ y := by omega
      clear hy hs7
      go_wp2_with (with_reducible change wpList _ _ _ (⟨_, Op.store _ _ _, _, _, _, _⟩ :: _) _ _; refine wpList_store_blk rfl 29 (.tmp 7) (.tmp 37) rfl y (bvs k) rfl rfl 29 (zb 32) hV7 Hsz.out Hzl.out (bvs_one _) ?_)
      intro w8 hV8 hk8 hs8
      have hK8 : Kept [] w6 w8 := hk7.trans hk8 (fun i hi => .inr (by have := List.mem_singleton.1 hi; omega))
      have HK8 := Lib.hid (HK6.out.andThen hK8)
      have HO8 := Lib.hid (HO6.out.kept0 hK8)
      have HD8 := Lib.hid (HD.kept0 HD6.out hK8)
      have HV8 := Lib.hid hV8
      clear hV7 hk7 hV8 hk8 hs8 hK8 HK6 HO6 HD6 ly
      go_wp2_with (first
        | (with_reducible change wpList _ _ _ (⟨_, Op.load _ _, _, _, _, _⟩ :: _) _ _; refine wpList_load_blk rfl 29 (.tmp 7) rfl y rfl 29 _ _ HV8.out arr32b rfl Hsz.out ?_)
        | (with_reducible change wpList _ _ _ (⟨_, Op.buildSlice _ _ _, _, _, _, _⟩ :: _) _ _; refine wpList_lit1 rfl 42 rfl k Hk.out rfl ?_))
      intro w9 hr9 hk9
      have HX9 := Lib.hid hr9
      have HK9 := Lib.hid (HK8.out.andThen hk9)
      have HO9 := Lib.hid (HO8.out.kept0 hk9)
      have HD9 := Lib.hid (HD.kept0 HD8.out hk9)
      clear hr9 hk9 HK8 HO8 HD8 HV8
      go_wp2_with (at_builtin; refine wpList_append_keys rfl (.tmp 41) (.tmp 43) rfl (.slice AL nL cL) dn rfl HO9.out _ 1 1 [k] rfl HX9.out (by have := HO9.out.rd.len; omega) ?_)
      intro v10 w10 ho10 hk10 hm10
      obtain ⟨hK10, hb10⟩ := app_new HK9.out (fun g hg => (HB6.out g hg).1) hk10 hm10
      have HB10 : Hid (∀ g, v10.ownBlock = some g → w.heap.size ≤ g ∧ g ∉ F') := Lib.hid (fun g hg => ⟨hb10 g hg, fun hin => (hm10 g hg).elim (fun h => (HB6.out g h).2 hin) (fun h => by have := HD.foot HD9.out _ hin; omega)⟩)
      have HD10 : Hid (Dr w10 p F' rs) := Lib.hid (HD.kept HD9.out hk10 (fun i hi hS => (HB6.out i (by simpa using hS)).2 hi))
      have HL10 : Hid (lenS v10 = (dn ++ [k]).length) := Lib.hid (by obtain ⟨A1, n1, c1, rfl, hr1, _⟩ := ho10.form; exact hr1.len.symm)
      have HE10 : Hid ((dn ++ [k]) ++ rs = ks ++ ms) := Lib.hid (by rw [List.append_assoc]; exact HE.out)
      have HLd : Hid (dn.length = nL) := Lib.hid HO9.out.rd.len
      have HO10 := Lib.hid ho10
      have HK10 := Lib.hid hK10
      clear ho10 hk10 hm10 hK10 hb10 HD9 HO9 HK9 HX9 HB6 HE
      go_wp2
      go_roundw
      case rel => exact ⟨dn ++ [k], rs, F', HE10, HL10, HO10, HB10, HD10, HF6, HK10.out⟩
      case measure =>
        rw [HL10.out, List.length_append, HLd.out]
        have := HEl.out
        have h3 : (k :: rs).length = rs.length + 1 := rfl
        rw [HLd.out, h3] at this
        simp [lenS]
        omega
end Go.Proofs.Ytmhigipljplgdaa
