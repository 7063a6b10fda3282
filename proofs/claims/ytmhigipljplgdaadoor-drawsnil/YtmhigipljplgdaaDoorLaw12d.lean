/-
  The walk of a law of layer 12, over whatever contracts the program's functions keep: whatever is drawn, and handed in behind, is what the document says, or refused. No statement of the seed is proved here.
-/
import Derived.Test.YtmhigipljplgdaaDoorDrI
import Derived.Test.YtmhigipljplgdaaDoorKd1
import Derived.Test.YtmhigipljplgdaaDoorKy2
import Derived.Test.YtmhigipljplgdaaDoorKd2
import Derived.Test.YtmhigipljplgdaaDoorEqId
import Derived.Test.YtmhigipljplgdaaDoorPc
import Derived.Test.YtmhigipljplgdaaDoorGen2
namespace Go.Proofs.YtmhigipljplgdaaDoor
open Go.RowKit
set_option linter.unusedVariables false

theorem zeroAct : (Tryd.prog.info? 28).bind (·.zero) = some (.agg ([Value.int .i64 0, Value.int .i64 0, Value.slice none 0 0] : List Value).toArray) := by kernel_rfl
theorem sizeAct : (Tryd.prog.info? 28).map (·.size) = some 3 := by kernel_rfl
section
variable {P : Program} {o : Oper} {ev : Operand → Value}
theorem pure_cellK (ty : TypeId) (x : Operand) (ho : o.op = .load ty x) (a : Addr) (u : Value) (hx : ev x = .pointer (some a)) (hagg : ∀ w, (isAgg ty).run P w = .ok false w) (w : World) (hc : w.cell? a = some u) :
    (execOp ev o).run P w = .ok (.value u) w := by
  unfold execOp
  simp only [ho, hx]
  simp [Instr.loadAt, Instr.sureAddr, loadVar, hagg, hc]
end
section
variable {ops : Array Oper} {rest : List Oper} {o : Oper} {a : Act} {Q : Exit → Act → World → Prop} {w : World}
theorem storeAct (hgd : o.guard = none) (x y : Operand) (ho : o.op = .store 28 x y) (g : Nat) (k z : Int) (A : Option Addr) (n c : Nat)
    (hx : a.eval x = .pointer (some ⟨g, 0, none⟩)) (hy : a.eval y = .agg #[.int .i64 k, .int .i64 z, .slice A n c]) (hg : Blk w g 28 [Value.int .i64 0, Value.int .i64 0, Value.slice none 0 0])
    (h : ∀ w', Blk w' g 28 [.int .i64 k, .int .i64 z, .slice A n c] → Kept [g] w w' → w'.heap.size = w.heap.size → wpList Tryd.prog ops Q rest (a.put o.dst undef) w') : wpList Tryd.prog ops Q (o :: rest) a w :=
  wpList_store_blk hgd 28 x y ho g [.int .i64 k, .int .i64 z, .slice A n c] hx hy 28 _ hg sizeAct rfl (by simp [Value.oneCell']) h
theorem loadAct (hgd : o.guard = none) (x : Operand) (ho : o.op = .load 28 x) (b q : Nat) (k z : Int) (A : Option Addr) (n c : Nat) (hx : a.eval x = .pointer (some ⟨b, q, none⟩))
    (h0 : w.cell? ⟨b, q, none⟩ = some (.int .i64 k)) (h1 : w.cell? ⟨b, q + 1, none⟩ = some (.int .i64 z)) (h2 : w.cell? ⟨b, q + 2, none⟩ = some (.slice A n c))
    (h : wpList Tryd.prog ops Q rest (a.put o.dst (.agg #[.int .i64 k, .int .i64 z, .slice A n c])) w) : wpList Tryd.prog ops Q (o :: rest) a w :=
  wpList_load_mid hgd 28 x ho b q hx [.int .i64 k, .int .i64 z, .slice A n c] _ (fun j v hv => by
    match j, hv with
    | 0, hv => have : Value.int .i64 k = v := by simpa using hv
               rw [← this]; exact h0
    | 1, hv => have : Value.int .i64 z = v := by simpa using hv
               rw [← this]; exact h1
    | 2, hv => have : Value.slice A n c = v := by simpa using hv
               rw [← this]; exact h2
    | j + 3, hv => simp at hv) Tryd.underlying28 rfl sizeAct h
end
theorem off_to {A : Option Addr} {F F' : List Nat} {w : World} {n c : Nat} {ks : Ks} (h : 0 < n → Off A F) (hr : RdK w A n c ks) (hF : ∀ i, i ∈ F' → i ∈ F ∨ w.heap.size ≤ i) : 0 < n → Off A F' := fun hn a ha hin => by
  obtain ⟨b, off, e, hb, _⟩ := hr.at_ hn
  rw [ha] at e
  injection e with e
  rcases hF _ hin with h1 | h1
  · exact h hn a ha h1
  · rw [e] at h1
    have : w.heap.size ≤ b := h1
    omega

set_option maxRecDepth 100000 in
set_option maxHeartbeats 8000000 in
theorem acts12_walk (Dr : World → Nat → List Nat → Ks → Prop) (HD : DrHas Dr)
    (HI : ∀ (w : World) (p : Nat) (F : List Nat) (k : List UInt8) (ks : Ks), Dr w p F (k :: ks) → k.length = 32 → Glob w → (∀ i, i ∈ F → 0 < i ∧ 1 < i) → Calls Tryd.prog 11 #[.pointer (some ⟨p, 0, none⟩)] w fun e w' => e = .returned (.tuple #[.agg (bvs (idL k)).toArray, .int .i64 0]) ∧ DrTo Dr p F ks w w')
    (HIn : ∀ (w : World) (p : Nat) (F : List Nat), Dr w p F [] → Calls Tryd.prog 11 #[.pointer (some ⟨p, 0, none⟩)] w fun e w' => e = .returned (.tuple #[.agg (zb 16).toArray, .int .i64 8]) ∧ DrTo Dr p F [] w w')
    (HW : ∀ w : World, Calls Tryd.prog 5 #[] w fun e w' => e = .returned (.bool true) ∧ Kept [] w w')
    (A : Option Addr) (n c : Nat) (ks0 : Ks) (A' : Option Addr) (n' c' : Nat) (l : List ActK) (w : World) (hgl : Glob w) (hr : RdK w A n c ks0) (ha : RdActK w A' n' c' l) :
    Calls Tryd.prog 3 #[.slice A n c, .slice A' n' c'] w fun e w' => e = .returned (.bool true) ∧ Kept [] w w' := by
  have HR := Lib.hid hr
  have HA := Lib.hid ha
  have HGL := Lib.hid hgl
  have HNl := Lib.hid hr.len
  have b1 := hr.cap
  have b2 := hr.most
  unfold maxLen at b2
  have b3 := ha.cap
  have b4 := ha.most
  unfold maxLen at b4
  clear hr ha hgl
  go_enter Tryd.func3, Tryd.ntmps3
  go_wp2_with fail
  refine (HW _).mono ?_
  rintro e w1 ⟨rfl, hk1⟩
  have HK1 := Lib.hid hk1
  clear hk1
  rcases (by omega : 100 < n ∨ (n ≤ 100 ∧ 60 < n') ∨ (n ≤ 100 ∧ n' ≤ 60)) with hb | ⟨hb, hb'⟩ | ⟨hb, hb'⟩
  · go_wp2
    go_ret
    exact ⟨rfl, HK1.out⟩
  · have h1 : ¬ 100 < n := by omega
    go_wp2
    go_ret
    exact ⟨rfl, HK1.out⟩
  have h1 : ¬ 100 < n := by omega
  have h2 : ¬ 60 < n' := by omega
  have HO := Lib.hid (OwK.empty w1)
  have HA1 : Hid (Kept [] w1 (w1.alloc (.cells #[] 32))) := Lib.hid ((Kept.refl [] w1).alloc _)
  go_wp2_with (at_builtin; refine wpList_append_keys rfl (.tmp 29) (.tmp 30) rfl (.slice (some ⟨w1.heap.size, 0, none⟩) 0 0) [] rfl HO.out A n c ks0 rfl (HR.out.kept0 (HK1.out.andThen HA1.out)) (by simp only [List.length_nil]; omega) ?_)
  intro v2 w2 ho2 hk2 hm2
  obtain ⟨hK2, _⟩ := app_new HA1.out (by intro g hg; simp [Value.ownBlock] at hg; omega) hk2 hm2
  obtain ⟨A2, n2, c2, rfl, hr2, _⟩ := ho2.form
  obtain rfl : n = n2 := by have := hr2.len; rw [← this]; exact HNl.out.symm
  have HK2 := Lib.hid (HK1.out.andThen hK2)
  clear HO HA1 ho2 hk2 hm2 hK2
  go_wp2_with fail
  refine (HD.new A2 n c2 ks0 _ hr2 (by omega)).mono ?_
  rintro e w3 ⟨p, F, rfl, hd3, hk3, hF3⟩
  have HD3 := Lib.hid hd3
  have HK3 := Lib.hid (HK2.out.andThen hk3)
  have HF3 : Hid (∀ i, i ∈ F → w.heap.size ≤ i) := Lib.hid (fun i hi => by have := hF3 i hi; have := HK2.out.size; omega)
  have HO := Lib.hid (OwK.empty w3)
  have HA3 : Hid (Kept [] w3 (w3.alloc (.cells #[] 32))) := Lib.hid ((Kept.refl [] w3).alloc _)
  clear hd3 hk3 hF3 hr2 HK2
  go_wp2_with (at_builtin; refine wpList_append_keys rfl (.tmp 33) (.tmp 34) rfl (.slice (some ⟨w3.heap.size, 0, none⟩) 0 0) [] rfl HO.out A n c ks0 rfl (HR.out.kept0 (HK3.out.andThen HA3.out)) (by simp only [List.length_nil]; omega) ?_)
  intro v4 w4 ho4 hk4 hm4
  obtain ⟨hK4, hb4⟩ := app_new HA3.out (by intro g hg; simp [Value.ownBlock] at hg; omega) hk4 hm4
  obtain ⟨A4, n4, c4, rfl, hr4, _⟩ := ho4.form
  obtain rfl : n = n4 := by have := hr4.len; rw [← this]; exact HNl.out.symm
  have HK4 := Lib.hid (HK3.out.andThen hK4)
  have HD4 := Lib.hid (HD.kept0 HD3.out hK4)
  have HR4 := Lib.hid hr4
  have HO4 : Hid (0 < n → Off A4 F) := Lib.hid (fun _ a' e' hin => by
    have h3 := HD.foot HD3.out _ hin
    subst e'
    have h4 := hb4 a'.block rfl
    omega)
  clear HO HA3 ho4 hk4 hm4 hK4 hb4 hr4 HD3 HK3
  have hn1 : decide ((100 : Int) < (n : Int)) = false := decide_eq_false (by omega)
  have hn2 : decide ((60 : Int) < (n' : Int)) = false := decide_eq_false (by omega)
  go_wp2
  try rw [hn1]
  try rw [hn2]
  rw [show (false || false) = false from rfl]
  clear hn1 hn2
  go_loopw [6, 38] (fun lv i wr => ∃ (j : Nat) (ks : Ks) (F : List Nat) (AL : Option Addr) (nL cL : Nat), j ≤ n' ∧ i = .int .i64 (j : Int) ∧ lv = .slice AL nL cL ∧ Hid (RdK wr AL nL cL ks) ∧ Hid (0 < nL → Off AL F) ∧ Hid (Dr wr p F ks) ∧ Hid (∀ i, i ∈ F → w.heap.size ≤ i) ∧ nL ≤ 100 + 30 * j ∧ Kept [] w wr) (fun _ i _ => n' - (intOf i).toNat)
  case atStart => exact ⟨0, ks0, F, A4, n, c4, by omega, rfl, rfl, HR4, HO4, HD4, HF3, by omega, HK4.out⟩
  case round =>
    clear HR4 HO4 HD4 HF3 HK4
    obtain ⟨j, ks, F, AL, nL, cL, hj, rfl, rfl, HRL, HOL, HDr, HF, hnL, hK⟩ := hrel
    by_cases hlt : j < n'
    · obtain ⟨b, off, act, rfl, ga, hat0⟩ := HA.out.at_ hlt
      have hat := hat0.kept0 hK
      obtain ⟨kind, num, AK, nK, cK, km⟩ := act
      have c0 : wr.cell? ⟨b, off + j * 3, none⟩ = some (.int .i64 kind) := hat.c0
      have c1 : wr.cell? ⟨b, off + j * 3 + 1, none⟩ = some (.int .i64 num) := hat.c1
      have c2' : wr.cell? ⟨b, off + j * 3 + 2, none⟩ = some (.slice AK nK cK) := hat.c2
      have kb : -9223372036854775808 ≤ kind ∧ kind ≤ 9223372036854775807 := hat.k0
      have nb : -9223372036854775808 ≤ num ∧ num ≤ 9223372036854775807 := hat.n0
      obtain ⟨nb1, nb2⟩ := nb
      obtain ⟨kb1, kb2⟩ := kb
      have HKm0 : Hid (RdK w AK nK cK km) := Lib.hid hat0.keys
      have HKm : Hid (RdK wr AK nK cK km) := Lib.hid hat.keys
      have HC := Lib.hid (And.intro c0 (And.intro c1 c2'))
      have q1 : nK ≤ cK := HKm.out.cap
      have q2 := HKm.out.most
      unfold maxLen at q2
      have q3 := HRL.out.cap
      have q4 := HRL.out.most
      unfold maxLen at q4
      have HLn := Lib.hid HRL.out.len
      have Hkk : Hid (∀ x : List UInt8, (!(x == x)) = false) := Lib.hid (fun x => by simp)
      have HKw := Lib.hid hK
      clear hat0 hat ga c0 c1 c2' hK
      go_wp2_with (first
        | (with_reducible change wpList _ _ _ (⟨_, Op.load _ _, _, _, _, _⟩ :: _) _ _; refine loadAct rfl (.tmp 40) rfl b (off + j * 3) kind num AK nK cK rfl HC.out.1 HC.out.2.1 HC.out.2.2 ?_)
        | (with_reducible change wpList _ _ _ (⟨_, Op.alloc _, _, _, _, _⟩ :: _) _ _; refine wpList_alloc_blk rfl 28 rfl _ zeroAct ?_))
      intro w5 hB5 hk5 hs5
      obtain ⟨g, hg⟩ : ∃ g, g = wr.heap.size := ⟨_, rfl⟩
      rw [← hg] at hB5 hs5 ⊢
      have lg : wr.heap.size ≤ g := by omega
      clear hg hs5
      go_wp2_with (with_reducible change wpList _ _ _ (⟨_, Op.store _ _ _, _, _, _, _⟩ :: _) _ _; refine storeAct rfl (.tmp 8) (.tmp 41) rfl g kind num AK nK cK rfl rfl hB5 ?_)
      intro w6 hB6 hk6 hs6
      have hK6 : Kept [] wr w6 := hk5.trans hk6 (fun i hi => .inr (by have := List.mem_singleton.1 hi; omega))
      have HK6 := Lib.hid (HKw.out.andThen hK6)
      have HR6 := Lib.hid (HRL.out.kept0 hK6)
      have HD6 := Lib.hid (HD.kept0 HDr.out hK6)
      have HKm6 := Lib.hid (HKm.out.kept0 hK6)
      have HgF : Hid (g ∉ F) := Lib.hid (fun hin => by have := HD.foot HDr.out _ hin; omega)
      have d0 : w6.cell? ⟨g, 0, none⟩ = some (.int .i64 kind) := hB6.cell 0
      have d1 : w6.cell? ⟨g, 1, none⟩ = some (.int .i64 num) := hB6.cell 1
      have d2 : w6.cell? ⟨g, 2, none⟩ = some (.slice AK nK cK) := hB6.cell 2
      have HB6 := Lib.hid hB6
      clear hB5 hk5 hB6 hk6 hs6 hK6 HC HRL HDr HKm HKw lg
      by_cases h30 : 30 < nK
      · go_wp2
        go_ret
        exact ⟨rfl, HK6.out⟩
      have h30' : ¬ 30 < nK := h30
      rcases (by omega : kind = 0 ∨ kind = 1 ∨ kind = 2 ∨ kind = 3 ∨ (¬ kind = 0 ∧ ¬ kind = 1 ∧ ¬ kind = 2 ∧ ¬ kind = 3)) with rfl | rfl | rfl | rfl | ⟨x0, x1, x2, x3⟩
      · cases ks with
        | nil =>
          obtain ⟨s1, s2, s3⟩ := som1_nil
          have HS := Lib.hid (And.intro s1 (And.intro s2 s3))
          clear s1 s2 s3
          obtain rfl : nL = 0 := by have := HLn.out; simpa using this.symm
          go_wp2_with fail
          refine (rSm_any 1 AL 0 cL [] _ HR6.out).mono ?_
          unfold SomRet
          rw [List.length_nil, HS.out.1, HS.out.2.1, HS.out.2.2]
          rintro e w7 ⟨A1, n1, c1, A2, n2, c2, m, rfl, rfl, h1, h2, o1, o2⟩
          obtain rfl : n2 = 0 := by have := h2.len; simpa using this.symm
          obtain rfl : n1 = 0 := by have := h1.len; simpa using this.symm
          have hkd := (Kept.refl [] w6).drewN m
          have HR7 := Lib.hid h2
          have HK7 := Lib.hid (HK6.out.andThen hkd)
          have HD7 := Lib.hid (HD.kept0 HD6.out hkd)
          have HR7d := Lib.hid (HR7.out.kept0 hkd)
          have e0 : (w6.drewN m).cell? ⟨g, 0, none⟩ = some (.int .i64 0) := d0
          clear hkd h1 h2 o1 o2 d0 d1 d2
          go_wp2_with fail
          refine (HD.none_ _ p F HD7.out).mono ?_
          rintro e w8 ⟨rfl, F', hd8, hk8, hF8⟩
          have HO8 : Hid (0 < 0 → Off A2 F') := Lib.hid (fun h => absurd h (by omega))
          have HD8 := Lib.hid hd8
          have HR8 := Lib.hid (HR7d.out.kept hk8 (fun h => absurd h (by omega)))
          have HK8 : Hid (Kept [] w w8) := Lib.hid (HK7.out.trans hk8 (fun i hi => .inr (HF.out i hi)))
          have HF8 : Hid (∀ i, i ∈ F' → w.heap.size ≤ i) := Lib.hid (fun i hi => (hF8 i hi).elim (fun h => HF.out i h) (fun h => by have := HK7.out.size; omega))
          have HB8 := Lib.hid ((HB6.out.kept0 ((Kept.refl [] w6).drewN m)).kept hk8 HgF.out)
          clear hd8 hk8 hF8 HD7 HR7d HK7 e0
          go_wp2_with (with_reducible change wpList _ _ _ (⟨_, Op.alloc _, _, _, _, _⟩ :: _) _ _; refine wpList_alloc_blk rfl 32 rfl _ zero32 ?_)
          intro w9 hV9 hk9 hs9
          obtain ⟨y, hy⟩ : ∃ y, y = w8.heap.size := ⟨_, rfl⟩
          rw [← hy] at hV9 hs9 ⊢
          have ly : w8.heap.size ≤ y := by omega
          clear hy hs9
          have Hsz : Hid ((Tryd.prog.info? 32).map (·.size) = some (zb 32).length) := Lib.hid zb_size
          have Hzl : Hid ((zb 32).length = (zb 32).length) := Lib.hid rfl
          have Hon : Hid (∀ v ∈ (zb 32), v.oneCell' = true) := Lib.hid zb_one
          go_wp2_with (with_reducible change wpList _ _ _ (⟨_, Op.store _ _ _, _, _, _, _⟩ :: _) _ _; refine wpList_store_blk rfl 32 (.tmp 13) (.tmp 66) rfl y (zb 32) rfl rfl 32 (zb 32) hV9 Hsz.out Hzl.out Hon.out ?_)
          intro w10 hV10 hk10 hs10
          have hK10 : Kept [] w8 w10 := hk9.trans hk10 (fun i hi => .inr (by have := List.mem_singleton.1 hi; omega))
          have HK10 := Lib.hid (HK8.out.andThen hK10)
          have HD10 := Lib.hid (HD.kept0 HD8.out hK10)
          have HR10 := Lib.hid (HR8.out.kept0 hK10)
          have HV10 := Lib.hid hV10
          have SK : Hid (∀ W, Kept [] w10 W → W.rangeAt y 0 (zb 32)) := Lib.hid (fun W h => (HV10.out.kept0 h).rangeOf)
          clear hV9 hk9 hV10 hk10 hs10 hK10 HK8 HD8 HR8 HV10 ly
          go_wp2
          have hHeld := SK.out _ (Kept.refl [] w10).drew
          refine wp_region_begin (fun W => W.rangeAt y 0 (zb 32)) (by kernel_rfl) ?_
          refine held_pureD 0 68 (.int .i64 8) rfl rfl (by kernel_rfl) (by kernel_rfl) (by kernel_rfl) rfl (fun w _ => rfl) hHeld ?_
          simp only [Act.put, List.setIfInBounds_toArray, List.set_cons_succ, List.set_cons_zero]
          refine held_pureD 1 69 (.int .i64 8) rfl rfl (by kernel_rfl) (by kernel_rfl) (by kernel_rfl) rfl (fun w _ => rfl) hHeld ?_
          simp only [Act.put, List.setIfInBounds_toArray, List.set_cons_succ, List.set_cons_zero]
          refine held_pureD 2 70 (.bool false) rfl rfl (by kernel_rfl) (by kernel_rfl) (by kernel_rfl) rfl (fun w _ => rfl) hHeld ?_
          simp only [Act.put, List.setIfInBounds_toArray, List.set_cons_succ, List.set_cons_zero]
          refine held_pureD 3 71 (.bool false) rfl rfl (by kernel_rfl) (by kernel_rfl) (by kernel_rfl) rfl (fun w _ => rfl) hHeld ?_
          simp only [Act.put, List.setIfInBounds_toArray, List.set_cons_succ, List.set_cons_zero]
          refine held_pureD 4 72 (.int .i64 8) rfl rfl (by kernel_rfl) (by kernel_rfl) (by kernel_rfl) rfl (fun w _ => rfl) hHeld ?_
          simp only [Act.put, List.setIfInBounds_toArray, List.set_cons_succ, List.set_cons_zero]
          refine held_pureD 5 73 (.bool false) rfl rfl (by kernel_rfl) (by kernel_rfl) (by kernel_rfl) rfl (fun w _ => rfl) hHeld ?_
          simp only [Act.put, List.setIfInBounds_toArray, List.set_cons_succ, List.set_cons_zero]
          refine held_pureD 6 74 (.bool false) rfl rfl (by kernel_rfl) (by kernel_rfl) (by kernel_rfl) rfl (fun w _ => rfl) hHeld ?_
          simp only [Act.put, List.setIfInBounds_toArray, List.set_cons_succ, List.set_cons_zero]
          refine held_skipD 7 75 rfl rfl (by kernel_rfl) (by kernel_rfl) (by kernel_rfl) rfl hHeld ?_
          simp only [Act.put, List.setIfInBounds_toArray, List.set_cons_succ, List.set_cons_zero]
          refine held_skipD 8 76 rfl rfl (by kernel_rfl) (by kernel_rfl) (by kernel_rfl) rfl hHeld ?_
          simp only [Act.put, List.setIfInBounds_toArray, List.set_cons_succ, List.set_cons_zero]
          refine held_skipD 9 77 rfl rfl (by kernel_rfl) (by kernel_rfl) (by kernel_rfl) rfl hHeld ?_
          simp only [Act.put, List.setIfInBounds_toArray, List.set_cons_succ, List.set_cons_zero]
          refine held_skipD 10 78 rfl rfl (by kernel_rfl) (by kernel_rfl) (by kernel_rfl) rfl hHeld ?_
          simp only [Act.put, List.setIfInBounds_toArray, List.set_cons_succ, List.set_cons_zero]
          refine held_skipD 11 79 rfl rfl (by kernel_rfl) (by kernel_rfl) (by kernel_rfl) rfl hHeld ?_
          simp only [Act.put, List.setIfInBounds_toArray, List.set_cons_succ, List.set_cons_zero]
          refine held_pureD 12 80 (.bool false) rfl rfl (by kernel_rfl) (by kernel_rfl) (by kernel_rfl) rfl (fun w _ => rfl) hHeld ?_
          simp only [Act.put, List.setIfInBounds_toArray, List.set_cons_succ, List.set_cons_zero]
          refine held_pureD 13 81 (.bool false) rfl rfl (by kernel_rfl) (by kernel_rfl) (by kernel_rfl) rfl (fun w _ => rfl) hHeld ?_
          simp only [Act.put, List.setIfInBounds_toArray, List.set_cons_succ, List.set_cons_zero]
          refine held_pureD 14 82 (.bool false) rfl rfl (by kernel_rfl) (by kernel_rfl) (by kernel_rfl) rfl (fun w _ => rfl) hHeld ?_
          simp only [Act.put, List.setIfInBounds_toArray, List.set_cons_succ, List.set_cons_zero]
          refine held_pureD 15 83 (.int .i64 8) rfl rfl (by kernel_rfl) (by kernel_rfl) (by kernel_rfl) rfl (fun w _ => rfl) hHeld ?_
          simp only [Act.put, List.setIfInBounds_toArray, List.set_cons_succ, List.set_cons_zero]
          refine held_pureD 16 84 (.bool true) rfl rfl (by kernel_rfl) (by kernel_rfl) (by kernel_rfl) rfl (fun w _ => rfl) hHeld ?_
          simp only [Act.put, List.setIfInBounds_toArray, List.set_cons_succ, List.set_cons_zero]
          refine held_pureD 17 85 (.bool true) rfl rfl (by kernel_rfl) (by kernel_rfl) (by kernel_rfl) rfl (fun w _ => rfl) hHeld ?_
          simp only [Act.put, List.setIfInBounds_toArray, List.set_cons_succ, List.set_cons_zero]
          refine held_loadD 18 86 rfl rfl (by kernel_rfl) (by kernel_rfl) (by kernel_rfl) rfl 32 (.tmp 13) rfl y (0) rfl (zb 32) _ (fun w h => h) arr32b rfl Hsz.out hHeld ?_
          simp only [Act.put, List.setIfInBounds_toArray, List.set_cons_succ, List.set_cons_zero]
          refine held_pureD 19 87 (.agg (zb 32).toArray) rfl rfl (by kernel_rfl) (by kernel_rfl) (by kernel_rfl) rfl (fun w _ => by kernel_rfl) hHeld ?_
          simp only [Act.put, List.setIfInBounds_toArray, List.set_cons_succ, List.set_cons_zero]
          refine held_pureD 20 88 (.bool (!(List.replicate 32 (0 : UInt8) == List.replicate 32 0))) rfl rfl (by kernel_rfl) (by kernel_rfl) (by kernel_rfl) rfl (fun w _ => run_neq32 _ _ (.tmp 86) (.tmp 87) _ rfl (List.replicate 32 0) (List.replicate 32 0) (by simp) (by simp) rfl rfl w) hHeld ?_
          simp only [Act.put, List.setIfInBounds_toArray, List.set_cons_succ, List.set_cons_zero]
          rw [Hkk.out _]
          refine held_pureD 21 89 (.bool false) rfl rfl (by kernel_rfl) (by kernel_rfl) (by kernel_rfl) rfl (fun w _ => rfl) hHeld ?_
          simp only [Act.put, List.setIfInBounds_toArray, List.set_cons_succ, List.set_cons_zero]
          refine held_pureD 22 90 (.bool false) rfl rfl (by kernel_rfl) (by kernel_rfl) (by kernel_rfl) rfl (fun w _ => rfl) hHeld ?_
          simp only [Act.put, List.setIfInBounds_toArray, List.set_cons_succ, List.set_cons_zero]
          refine held_done (by kernel_rfl) ?_
          clear hHeld
          have HKz : Hid (Kept [] w w10.drew) := Lib.hid HK10.out.drew
          have HDz := Lib.hid (HD.kept0 HD10.out (Kept.refl [] w10).drew)
          have HRz := Lib.hid HR10.out.drew
          clear HK10 HD10 HR10 SK HB8
          go_wp2_with fail
          refine (HD.left_ _ p F' [] HDz.out (by rw [HRz.out.len]; omega)).mono ?_
          rw [HRz.out.len]
          rintro e wL ⟨rfl, hkL⟩
          have HrL := Lib.hid (HRz.out.kept0 hkL)
          have HdL := Lib.hid (HD.kept0 HDz.out hkL)
          have hKL := HKz.out.andThen hkL
          clear hkL
          go_wp2
          go_roundw
          case rel => exact ⟨j + 1, [], F', A2, 0, c2, by omega, by go_num, rfl, HrL, HO8, HdL, HF8, (by omega), hKL⟩
          case measure => simp [intOf]; omega
        | cons k kr =>
          obtain ⟨s1, s2, s3⟩ := som1_cons k kr
          have HS := Lib.hid (And.intro s1 (And.intro s2 s3))
          clear s1 s2 s3
          have hk32 : k.length = 32 := HR6.out.each k (by simp)
          have Hk := Lib.hid hk32
          clear hk32
          go_wp2_with fail
          refine (rSm_any 1 AL nL cL (k :: kr) _ HR6.out).mono ?_
          unfold SomRet
          rw [List.length_cons, HS.out.1, HS.out.2.1, HS.out.2.2]
          rintro e w7 ⟨A1, n1, c1, A2, n2, c2, m, rfl, rfl, h1, h2, o1, o2⟩
          obtain rfl : n1 = 1 := by have := h1.len; simpa using this.symm
          have hn2 : n2 + 1 = nL := by have h3 := h2.len; have h4 := HLn.out; rw [List.length_cons] at h4; omega
          have hkd := (Kept.refl [] w6).drewN m
          have HR7d := Lib.hid (h2.kept0 hkd)
          have HX7 := Lib.hid (h1.kept0 hkd)
          have HK7 := Lib.hid (HK6.out.andThen hkd)
          have HD7 := Lib.hid (HD.kept0 HD6.out hkd)
          have HO7 : Hid (0 < n2 → Off A2 F) := Lib.hid (fun h => o2 F (HOL.out (by omega)))
          have HO1 : Hid (Off A1 F) := Lib.hid (o1 F (HOL.out (by omega)))
          have e0 : (w6.drewN m).cell? ⟨g, 0, none⟩ = some (.int .i64 0) := d0
          clear hkd h1 h2 o1 o2 d0 d1 d2
          go_wp2_with fail
          refine (HD.next _ p F k kr HD7.out).mono ?_
          rintro e w8 ⟨rfl, F', hd8, hk8, hF8⟩
          have HO8 : Hid (0 < n2 → Off A2 F') := Lib.hid (off_to HO7.out HR7d.out hF8)
          have HD8 := Lib.hid hd8
          have HR8 := Lib.hid (HR7d.out.kept hk8 HO7.out)
          have HX8 := Lib.hid (HX7.out.kept hk8 (fun _ => HO1.out))
          have HK8 : Hid (Kept [] w w8) := Lib.hid (HK7.out.trans hk8 (fun i hi => .inr (HF.out i hi)))
          have HF8 : Hid (∀ i, i ∈ F' → w.heap.size ≤ i) := Lib.hid (fun i hi => (hF8 i hi).elim (fun h => HF.out i h) (fun h => by have := HK7.out.size; omega))
          have HB8 := Lib.hid ((HB6.out.kept0 ((Kept.refl [] w6).drewN m)).kept hk8 HgF.out)
          clear hd8 hk8 hF8 HD7 HR7d HK7 e0
          go_wp2_with (with_reducible change wpList _ _ _ (⟨_, Op.alloc _, _, _, _, _⟩ :: _) _ _; refine wpList_alloc_blk rfl 32 rfl _ zero32 ?_)
          intro w9 hV9 hk9 hs9
          obtain ⟨y, hy⟩ : ∃ y, y = w8.heap.size := ⟨_, rfl⟩
          rw [← hy] at hV9 hs9 ⊢
          have ly : w8.heap.size ≤ y := by omega
          clear hy hs9
          have Hsz : Hid ((Tryd.prog.info? 32).map (·.size) = some (bvs k).length) := Lib.hid (size_of_len size32 Hk.out)
          have Hzl : Hid ((zb 32).length = (bvs k).length) := Lib.hid (zb_len Hk.out)
          have Hon : Hid (∀ v ∈ (bvs k), v.oneCell' = true) := Lib.hid (bvs_one _)
          go_wp2_with (with_reducible change wpList _ _ _ (⟨_, Op.store _ _ _, _, _, _, _⟩ :: _) _ _; refine wpList_store_blk rfl 32 (.tmp 13) (.tmp 66) rfl y (bvs k) rfl rfl 32 (zb 32) hV9 Hsz.out Hzl.out Hon.out ?_)
          intro w10 hV10 hk10 hs10
          have hK10 : Kept [] w8 w10 := hk9.trans hk10 (fun i hi => .inr (by have := List.mem_singleton.1 hi; omega))
          have HK10 := Lib.hid (HK8.out.andThen hK10)
          have HD10 := Lib.hid (HD.kept0 HD8.out hK10)
          have HR10 := Lib.hid (HR8.out.kept0 hK10)
          have HV10 := Lib.hid hV10
          have HX10 := Lib.hid (HX8.out.kept0 hK10)
          obtain ⟨bo, oo, k2, eo, ho2, _, hro, hbo⟩ := HX10.out.key (j := 0) (by omega)
          obtain rfl : k = k2 := by simpa using ho2
          subst eo
          have SK : Hid (∀ W, Kept [] w10 W → W.rangeAt y 0 (bvs k) ∧ W.rangeAt bo (oo + 0 * 32) (bvs k)) := Lib.hid (fun W h => ⟨(HV10.out.kept0 h).rangeOf, fun i v hv => (h.cell (p := ⟨bo, oo + 0 * 32 + i, none⟩) hbo (by simp)).trans (hro i v hv)⟩)
          clear ho2 hro hbo
          clear hV9 hk9 hV10 hk10 hs10 hK10 HK8 HD8 HR8 HV10 ly
          go_wp2
          have hHeld := SK.out _ (Kept.refl [] w10).drew
          refine wp_region_begin (fun W => W.rangeAt y 0 (bvs k) ∧ W.rangeAt bo (oo + 0 * 32) (bvs k)) (by kernel_rfl) ?_
          refine held_pureD 0 68 (.int .i64 0) rfl rfl (by kernel_rfl) (by kernel_rfl) (by kernel_rfl) rfl (fun w _ => rfl) hHeld ?_
          simp only [Act.put, List.setIfInBounds_toArray, List.set_cons_succ, List.set_cons_zero]
          refine held_pureD 1 69 (.int .i64 0) rfl rfl (by kernel_rfl) (by kernel_rfl) (by kernel_rfl) rfl (fun w _ => rfl) hHeld ?_
          simp only [Act.put, List.setIfInBounds_toArray, List.set_cons_succ, List.set_cons_zero]
          refine held_pureD 2 70 (.bool false) rfl rfl (by kernel_rfl) (by kernel_rfl) (by kernel_rfl) rfl (fun w _ => rfl) hHeld ?_
          simp only [Act.put, List.setIfInBounds_toArray, List.set_cons_succ, List.set_cons_zero]
          refine held_pureD 3 71 (.bool false) rfl rfl (by kernel_rfl) (by kernel_rfl) (by kernel_rfl) rfl (fun w _ => rfl) hHeld ?_
          simp only [Act.put, List.setIfInBounds_toArray, List.set_cons_succ, List.set_cons_zero]
          refine held_pureD 4 72 (.int .i64 0) rfl rfl (by kernel_rfl) (by kernel_rfl) (by kernel_rfl) rfl (fun w _ => rfl) hHeld ?_
          simp only [Act.put, List.setIfInBounds_toArray, List.set_cons_succ, List.set_cons_zero]
          refine held_pureD 5 73 (.bool true) rfl rfl (by kernel_rfl) (by kernel_rfl) (by kernel_rfl) rfl (fun w _ => rfl) hHeld ?_
          simp only [Act.put, List.setIfInBounds_toArray, List.set_cons_succ, List.set_cons_zero]
          refine held_pureD 6 74 (.bool true) rfl rfl (by kernel_rfl) (by kernel_rfl) (by kernel_rfl) rfl (fun w _ => rfl) hHeld ?_
          simp only [Act.put, List.setIfInBounds_toArray, List.set_cons_succ, List.set_cons_zero]
          refine held_loadD 7 75 rfl rfl (by kernel_rfl) (by kernel_rfl) (by kernel_rfl) rfl 32 (.tmp 13) rfl y (0) rfl (bvs k) _ (fun w h => h.1) arr32b rfl Hsz.out hHeld ?_
          simp only [Act.put, List.setIfInBounds_toArray, List.set_cons_succ, List.set_cons_zero]
          refine held_pureD 8 76 (Value.slice (some ⟨bo, oo, none⟩) 1 c1) rfl rfl (by kernel_rfl) (by kernel_rfl) (by kernel_rfl) rfl (fun w _ => rfl) hHeld ?_
          simp only [Act.put, List.setIfInBounds_toArray, List.set_cons_succ, List.set_cons_zero]
          refine held_pureD 9 77 (Value.pointer (some ⟨bo, oo + 0 * 32, none⟩)) rfl rfl (by kernel_rfl) (by kernel_rfl) (by kernel_rfl) rfl (fun w _ => pure_idxK (.tmp 76) (.const (.int .i64 0)) rfl bo oo 1 c1 0 rfl rfl (by omega) w) hHeld ?_
          simp only [Act.put, List.setIfInBounds_toArray, List.set_cons_succ, List.set_cons_zero]
          refine held_loadD 10 78 rfl rfl (by kernel_rfl) (by kernel_rfl) (by kernel_rfl) rfl 32 (.tmp 77) rfl bo (oo + 0 * 32) rfl (bvs k) _ (fun w h => h.2) arr32b rfl (size_of_len size32 Hk.out) hHeld ?_
          simp only [Act.put, List.setIfInBounds_toArray, List.set_cons_succ, List.set_cons_zero]
          refine held_pureD 11 79 (.bool (!(k == k))) rfl rfl (by kernel_rfl) (by kernel_rfl) (by kernel_rfl) rfl (fun w _ => run_neq32 _ _ (.tmp 75) (.tmp 78) _ rfl k k Hk.out Hk.out rfl rfl w) hHeld ?_
          simp only [Act.put, List.setIfInBounds_toArray, List.set_cons_succ, List.set_cons_zero]
          rw [Hkk.out _]
          refine held_pureD 12 80 (.bool false) rfl rfl (by kernel_rfl) (by kernel_rfl) (by kernel_rfl) rfl (fun w _ => rfl) hHeld ?_
          simp only [Act.put, List.setIfInBounds_toArray, List.set_cons_succ, List.set_cons_zero]
          refine held_pureD 13 81 (.bool false) rfl rfl (by kernel_rfl) (by kernel_rfl) (by kernel_rfl) rfl (fun w _ => rfl) hHeld ?_
          simp only [Act.put, List.setIfInBounds_toArray, List.set_cons_succ, List.set_cons_zero]
          refine held_pureD 14 82 (.bool false) rfl rfl (by kernel_rfl) (by kernel_rfl) (by kernel_rfl) rfl (fun w _ => rfl) hHeld ?_
          simp only [Act.put, List.setIfInBounds_toArray, List.set_cons_succ, List.set_cons_zero]
          refine held_pureD 15 83 (.int .i64 0) rfl rfl (by kernel_rfl) (by kernel_rfl) (by kernel_rfl) rfl (fun w _ => rfl) hHeld ?_
          simp only [Act.put, List.setIfInBounds_toArray, List.set_cons_succ, List.set_cons_zero]
          refine held_pureD 16 84 (.bool false) rfl rfl (by kernel_rfl) (by kernel_rfl) (by kernel_rfl) rfl (fun w _ => rfl) hHeld ?_
          simp only [Act.put, List.setIfInBounds_toArray, List.set_cons_succ, List.set_cons_zero]
          refine held_pureD 17 85 (.bool false) rfl rfl (by kernel_rfl) (by kernel_rfl) (by kernel_rfl) rfl (fun w _ => rfl) hHeld ?_
          simp only [Act.put, List.setIfInBounds_toArray, List.set_cons_succ, List.set_cons_zero]
          refine held_skipD 18 86 rfl rfl (by kernel_rfl) (by kernel_rfl) (by kernel_rfl) rfl hHeld ?_
          simp only [Act.put, List.setIfInBounds_toArray, List.set_cons_succ, List.set_cons_zero]
          refine held_skipD 19 87 rfl rfl (by kernel_rfl) (by kernel_rfl) (by kernel_rfl) rfl hHeld ?_
          simp only [Act.put, List.setIfInBounds_toArray, List.set_cons_succ, List.set_cons_zero]
          refine held_skipD 20 88 rfl rfl (by kernel_rfl) (by kernel_rfl) (by kernel_rfl) rfl hHeld ?_
          simp only [Act.put, List.setIfInBounds_toArray, List.set_cons_succ, List.set_cons_zero]
          refine held_pureD 21 89 (.bool false) rfl rfl (by kernel_rfl) (by kernel_rfl) (by kernel_rfl) rfl (fun w _ => rfl) hHeld ?_
          simp only [Act.put, List.setIfInBounds_toArray, List.set_cons_succ, List.set_cons_zero]
          refine held_pureD 22 90 (.bool false) rfl rfl (by kernel_rfl) (by kernel_rfl) (by kernel_rfl) rfl (fun w _ => rfl) hHeld ?_
          simp only [Act.put, List.setIfInBounds_toArray, List.set_cons_succ, List.set_cons_zero]
          refine held_done (by kernel_rfl) ?_
          clear hHeld
          have HKz : Hid (Kept [] w w10.drew) := Lib.hid HK10.out.drew
          have HDz := Lib.hid (HD.kept0 HD10.out (Kept.refl [] w10).drew)
          have HRz := Lib.hid HR10.out.drew
          clear HK10 HD10 HR10 SK HB8
          go_wp2_with fail
          refine (HD.left_ _ p F' kr HDz.out (by rw [HRz.out.len]; omega)).mono ?_
          rw [HRz.out.len]
          rintro e wL ⟨rfl, hkL⟩
          have HrL := Lib.hid (HRz.out.kept0 hkL)
          have HdL := Lib.hid (HD.kept0 HDz.out hkL)
          have hKL := HKz.out.andThen hkL
          clear hkL
          go_wp2
          go_roundw
          case rel => exact ⟨j + 1, kr, F', A2, n2, c2, by omega, by go_num, rfl, HrL, HO8, HdL, HF8, (by omega), hKL⟩
          case measure => simp [intOf]; omega
      · skip
        go_wp2_with fail
        refine (rSm_any num AL nL cL ks _ HR6.out).mono ?_
        unfold SomRet
        rintro e w7 ⟨A1, n1, c1, A2, n2, c2, m, rfl, rfl, h1, h2, o1, o2⟩
        have hn2 : n2 ≤ nL := by rw [← h2.len, ← HLn.out]; exact somL_length num ks
        have hn1 : 0 < n1 → 0 < nL := fun h => by
          have h3 := h1.len
          have h4 := HLn.out
          rcases Nat.eq_zero_or_pos nL with h5 | h5
          · have : ks = [] := List.eq_nil_of_length_eq_zero (by omega)
            subst this
            unfold somO at h3
            split at h3 <;> simp at h3 <;> omega
          · exact h5
        have hkd := (Kept.refl [] w6).drewN m
        have HR7d := Lib.hid (h2.kept0 hkd)
        have HX7 := Lib.hid (h1.kept0 hkd)
        have HK7 := Lib.hid (HK6.out.andThen hkd)
        have HD7 := Lib.hid (HD.kept0 HD6.out hkd)
        have HO7 : Hid (0 < n2 → Off A2 F) := Lib.hid (fun h => o2 F (HOL.out (by omega)))
        have HO1 : Hid (0 < n1 → Off A1 F) := Lib.hid (fun h => o1 F (HOL.out (hn1 h)))
        have e0 : (w6.drewN m).cell? ⟨g, 0, none⟩ = some (.int .i64 1) := d0
        have e1 : (w6.drewN m).cell? ⟨g, 1, none⟩ = some (.int .i64 num) := d1
        clear hkd h1 h2 o1 o2 d0 d1 d2 hn1
        go_wp2_with fail
        refine (HD.some_ _ p F ks num HD7.out nb1 nb2 (by rw [HLn.out]; omega)).mono ?_
        rintro e w8 ⟨A8, n8, c8, rfl, hr8, F', hd8, hk8, hF8⟩
        have HO8 : Hid (0 < n2 → Off A2 F') := Lib.hid (off_to HO7.out HR7d.out hF8)
        have HD8 := Lib.hid hd8
        have HR8 := Lib.hid (HR7d.out.kept hk8 HO7.out)
        have HX8 := Lib.hid (HX7.out.kept hk8 HO1.out)
        have HY8 := Lib.hid hr8
        have HK8 : Hid (Kept [] w w8) := Lib.hid (HK7.out.trans hk8 (fun i hi => .inr (HF.out i hi)))
        have HF8 : Hid (∀ i, i ∈ F' → w.heap.size ≤ i) := Lib.hid (fun i hi => (hF8 i hi).elim (fun h => HF.out i h) (fun h => by have := HK7.out.size; omega))
        obtain ⟨E, hE⟩ : ∃ E, somE num ks.length = E := ⟨_, rfl⟩
        rw [hE]
        clear hE hd8 hk8 hF8 hr8 HD7 HR7d HK7 HX7 e0 e1
        go_wp2_with fail
        refine (same12_any _ _ _ _ _ _ _ _ HY8.out HX8.out).mono ?_
        rintro e w9 ⟨rfl, m9, rfl⟩
        have hk9 := (Kept.refl [] w8).drewN m9
        have HKz := Lib.hid (HK8.out.andThen hk9)
        have HDz := Lib.hid (HD.kept0 HD8.out hk9)
        have HRz := Lib.hid (HR8.out.kept0 hk9)
        clear hk9 HK8 HD8 HR8 HX8 HY8
        go_wp2_with fail
        refine (HD.left_ _ p F' (somL num ks) HDz.out (by rw [HRz.out.len]; omega)).mono ?_
        rw [HRz.out.len]
        rintro e wL ⟨rfl, hkL⟩
        have HrL := Lib.hid (HRz.out.kept0 hkL)
        have HdL := Lib.hid (HD.kept0 HDz.out hkL)
        have hKL := HKz.out.andThen hkL
        clear hkL
        go_wp2
        go_roundw
        case rel => exact ⟨j + 1, (somL num ks), F', A2, n2, c2, by omega, by go_num, rfl, HrL, HO8, HdL, HF8, (by omega), hKL⟩
        case measure => simp [intOf]; omega
      · cases ks with
        | nil =>
          obtain ⟨s1, s2, s3⟩ := som1_nil
          have HS := Lib.hid (And.intro s1 (And.intro s2 s3))
          clear s1 s2 s3
          obtain rfl : nL = 0 := by have := HLn.out; simpa using this.symm
          go_wp2_with fail
          refine (rSm_any 1 AL 0 cL [] _ HR6.out).mono ?_
          unfold SomRet
          rw [List.length_nil, HS.out.1, HS.out.2.1, HS.out.2.2]
          rintro e w7 ⟨A1, n1, c1, A2, n2, c2, m, rfl, rfl, h1, h2, o1, o2⟩
          obtain rfl : n2 = 0 := by have := h2.len; simpa using this.symm
          obtain rfl : n1 = 0 := by have := h1.len; simpa using this.symm
          have hkd := (Kept.refl [] w6).drewN m
          have HR7 := Lib.hid h2
          have HK7 := Lib.hid (HK6.out.andThen hkd)
          have HD7 := Lib.hid (HD.kept0 HD6.out hkd)
          have HR7d := Lib.hid (HR7.out.kept0 hkd)
          have e0 : (w6.drewN m).cell? ⟨g, 0, none⟩ = some (.int .i64 2) := d0
          clear hkd h1 h2 o1 o2 d0 d1 d2
          go_wp2_with fail
          refine (HIn _ p F HD7.out).mono ?_
          rintro e w8 ⟨rfl, F', hd8, hk8, hF8⟩
          have HO8 : Hid (0 < 0 → Off A2 F') := Lib.hid (fun h => absurd h (by omega))
          have HD8 := Lib.hid hd8
          have HR8 := Lib.hid (HR7d.out.kept hk8 (fun h => absurd h (by omega)))
          have HK8 : Hid (Kept [] w w8) := Lib.hid (HK7.out.trans hk8 (fun i hi => .inr (HF.out i hi)))
          have HF8 : Hid (∀ i, i ∈ F' → w.heap.size ≤ i) := Lib.hid (fun i hi => (hF8 i hi).elim (fun h => HF.out i h) (fun h => by have := HK7.out.size; omega))
          have HB8 := Lib.hid ((HB6.out.kept0 ((Kept.refl [] w6).drewN m)).kept hk8 HgF.out)
          clear hd8 hk8 hF8 HD7 HR7d HK7 e0
          go_wp2_with (with_reducible change wpList _ _ _ (⟨_, Op.alloc _, _, _, _, _⟩ :: _) _ _; refine wpList_alloc_blk rfl 40 rfl _ zeroId ?_)
          intro w9 hV9 hk9 hs9
          obtain ⟨y, hy⟩ : ∃ y, y = w8.heap.size := ⟨_, rfl⟩
          rw [← hy] at hV9 hs9 ⊢
          have ly : w8.heap.size ≤ y := by omega
          clear hy hs9
          have Hsz : Hid ((Tryd.prog.info? 40).map (·.size) = some (zb 16).length) := Lib.hid zb16_size
          have Hzl : Hid ((zb 16).length = (zb 16).length) := Lib.hid rfl
          have Hon : Hid (∀ v ∈ (zb 16), v.oneCell' = true) := Lib.hid zb16_one
          go_wp2_with (with_reducible change wpList _ _ _ (⟨_, Op.store _ _ _, _, _, _, _⟩ :: _) _ _; refine wpList_store_blk rfl 40 (.tmp 17) (.tmp 114) rfl y (zb 16) rfl rfl 40 (zb 16) hV9 Hsz.out Hzl.out Hon.out ?_)
          intro w10 hV10 hk10 hs10
          have hK10 : Kept [] w8 w10 := hk9.trans hk10 (fun i hi => .inr (by have := List.mem_singleton.1 hi; omega))
          have HK10 := Lib.hid (HK8.out.andThen hK10)
          have HD10 := Lib.hid (HD.kept0 HD8.out hK10)
          have HR10 := Lib.hid (HR8.out.kept0 hK10)
          have HV10 := Lib.hid hV10
          have SK : Hid (∀ W, Kept [] w10 W → W.rangeAt y 0 (zb 16)) := Lib.hid (fun W h => (HV10.out.kept0 h).rangeOf)
          clear hV9 hk9 hV10 hk10 hs10 hK10 HK8 HD8 HR8 HV10 ly
          go_wp2
          have hHeld := SK.out _ (Kept.refl [] w10).drew
          refine wp_region_begin (fun W => W.rangeAt y 0 (zb 16)) (by kernel_rfl) ?_
          refine held_pureD 0 116 (.int .i64 8) rfl rfl (by kernel_rfl) (by kernel_rfl) (by kernel_rfl) rfl (fun w _ => rfl) hHeld ?_
          simp only [Act.put, List.setIfInBounds_toArray, List.set_cons_succ, List.set_cons_zero]
          refine held_pureD 1 117 (.int .i64 8) rfl rfl (by kernel_rfl) (by kernel_rfl) (by kernel_rfl) rfl (fun w _ => rfl) hHeld ?_
          simp only [Act.put, List.setIfInBounds_toArray, List.set_cons_succ, List.set_cons_zero]
          refine held_pureD 2 118 (.bool false) rfl rfl (by kernel_rfl) (by kernel_rfl) (by kernel_rfl) rfl (fun w _ => rfl) hHeld ?_
          simp only [Act.put, List.setIfInBounds_toArray, List.set_cons_succ, List.set_cons_zero]
          refine held_pureD 3 119 (.bool false) rfl rfl (by kernel_rfl) (by kernel_rfl) (by kernel_rfl) rfl (fun w _ => rfl) hHeld ?_
          simp only [Act.put, List.setIfInBounds_toArray, List.set_cons_succ, List.set_cons_zero]
          refine held_pureD 4 120 (.int .i64 8) rfl rfl (by kernel_rfl) (by kernel_rfl) (by kernel_rfl) rfl (fun w _ => rfl) hHeld ?_
          simp only [Act.put, List.setIfInBounds_toArray, List.set_cons_succ, List.set_cons_zero]
          refine held_pureD 5 121 (.bool false) rfl rfl (by kernel_rfl) (by kernel_rfl) (by kernel_rfl) rfl (fun w _ => rfl) hHeld ?_
          simp only [Act.put, List.setIfInBounds_toArray, List.set_cons_succ, List.set_cons_zero]
          refine held_pureD 6 122 (.bool false) rfl rfl (by kernel_rfl) (by kernel_rfl) (by kernel_rfl) rfl (fun w _ => rfl) hHeld ?_
          simp only [Act.put, List.setIfInBounds_toArray, List.set_cons_succ, List.set_cons_zero]
          refine held_skipD 7 123 rfl rfl (by kernel_rfl) (by kernel_rfl) (by kernel_rfl) rfl hHeld ?_
          simp only [Act.put, List.setIfInBounds_toArray, List.set_cons_succ, List.set_cons_zero]
          refine held_skipD 8 124 rfl rfl (by kernel_rfl) (by kernel_rfl) (by kernel_rfl) rfl hHeld ?_
          simp only [Act.put, List.setIfInBounds_toArray, List.set_cons_succ, List.set_cons_zero]
          refine held_skipD 9 125 rfl rfl (by kernel_rfl) (by kernel_rfl) (by kernel_rfl) rfl hHeld ?_
          simp only [Act.put, List.setIfInBounds_toArray, List.set_cons_succ, List.set_cons_zero]
          refine held_skipD 10 126 rfl rfl (by kernel_rfl) (by kernel_rfl) (by kernel_rfl) rfl hHeld ?_
          simp only [Act.put, List.setIfInBounds_toArray, List.set_cons_succ, List.set_cons_zero]
          refine held_skipD 11 127 rfl rfl (by kernel_rfl) (by kernel_rfl) (by kernel_rfl) rfl hHeld ?_
          simp only [Act.put, List.setIfInBounds_toArray, List.set_cons_succ, List.set_cons_zero]
          refine held_skipD 12 128 rfl rfl (by kernel_rfl) (by kernel_rfl) (by kernel_rfl) rfl hHeld ?_
          simp only [Act.put, List.setIfInBounds_toArray, List.set_cons_succ, List.set_cons_zero]
          refine held_pureD 13 129 (.bool false) rfl rfl (by kernel_rfl) (by kernel_rfl) (by kernel_rfl) rfl (fun w _ => rfl) hHeld ?_
          simp only [Act.put, List.setIfInBounds_toArray, List.set_cons_succ, List.set_cons_zero]
          refine held_pureD 14 130 (.bool false) rfl rfl (by kernel_rfl) (by kernel_rfl) (by kernel_rfl) rfl (fun w _ => rfl) hHeld ?_
          simp only [Act.put, List.setIfInBounds_toArray, List.set_cons_succ, List.set_cons_zero]
          refine held_pureD 15 131 (.bool false) rfl rfl (by kernel_rfl) (by kernel_rfl) (by kernel_rfl) rfl (fun w _ => rfl) hHeld ?_
          simp only [Act.put, List.setIfInBounds_toArray, List.set_cons_succ, List.set_cons_zero]
          refine held_pureD 16 132 (.int .i64 8) rfl rfl (by kernel_rfl) (by kernel_rfl) (by kernel_rfl) rfl (fun w _ => rfl) hHeld ?_
          simp only [Act.put, List.setIfInBounds_toArray, List.set_cons_succ, List.set_cons_zero]
          refine held_pureD 17 133 (.bool true) rfl rfl (by kernel_rfl) (by kernel_rfl) (by kernel_rfl) rfl (fun w _ => rfl) hHeld ?_
          simp only [Act.put, List.setIfInBounds_toArray, List.set_cons_succ, List.set_cons_zero]
          refine held_pureD 18 134 (.bool true) rfl rfl (by kernel_rfl) (by kernel_rfl) (by kernel_rfl) rfl (fun w _ => rfl) hHeld ?_
          simp only [Act.put, List.setIfInBounds_toArray, List.set_cons_succ, List.set_cons_zero]
          refine held_loadD 19 135 rfl rfl (by kernel_rfl) (by kernel_rfl) (by kernel_rfl) rfl 40 (.tmp 17) rfl y (0) rfl (zb 16) _ (fun w h => h) arrId rfl Hsz.out hHeld ?_
          simp only [Act.put, List.setIfInBounds_toArray, List.set_cons_succ, List.set_cons_zero]
          refine held_pureD 20 136 (.agg (zb 16).toArray) rfl rfl (by kernel_rfl) (by kernel_rfl) (by kernel_rfl) rfl (fun w _ => by kernel_rfl) hHeld ?_
          simp only [Act.put, List.setIfInBounds_toArray, List.set_cons_succ, List.set_cons_zero]
          refine held_pureD 21 137 (.bool (!(List.replicate 16 (0 : UInt8) == List.replicate 16 0))) rfl rfl (by kernel_rfl) (by kernel_rfl) (by kernel_rfl) rfl (fun w _ => run_neqId _ _ (.tmp 135) (.tmp 136) _ rfl (List.replicate 16 0) (List.replicate 16 0) (by simp) (by simp) rfl rfl w) hHeld ?_
          simp only [Act.put, List.setIfInBounds_toArray, List.set_cons_succ, List.set_cons_zero]
          rw [Hkk.out _]
          refine held_pureD 22 138 (.bool false) rfl rfl (by kernel_rfl) (by kernel_rfl) (by kernel_rfl) rfl (fun w _ => rfl) hHeld ?_
          simp only [Act.put, List.setIfInBounds_toArray, List.set_cons_succ, List.set_cons_zero]
          refine held_pureD 23 139 (.bool false) rfl rfl (by kernel_rfl) (by kernel_rfl) (by kernel_rfl) rfl (fun w _ => rfl) hHeld ?_
          simp only [Act.put, List.setIfInBounds_toArray, List.set_cons_succ, List.set_cons_zero]
          refine held_done (by kernel_rfl) ?_
          clear hHeld
          have HKz : Hid (Kept [] w w10.drew) := Lib.hid HK10.out.drew
          have HDz := Lib.hid (HD.kept0 HD10.out (Kept.refl [] w10).drew)
          have HRz := Lib.hid HR10.out.drew
          clear HK10 HD10 HR10 SK HB8
          go_wp2_with fail
          refine (HD.left_ _ p F' [] HDz.out (by rw [HRz.out.len]; omega)).mono ?_
          rw [HRz.out.len]
          rintro e wL ⟨rfl, hkL⟩
          have HrL := Lib.hid (HRz.out.kept0 hkL)
          have HdL := Lib.hid (HD.kept0 HDz.out hkL)
          have hKL := HKz.out.andThen hkL
          clear hkL
          go_wp2
          go_roundw
          case rel => exact ⟨j + 1, [], F', A2, 0, c2, by omega, by go_num, rfl, HrL, HO8, HdL, HF8, (by omega), hKL⟩
          case measure => simp [intOf]; omega
        | cons k kr =>
          obtain ⟨s1, s2, s3⟩ := som1_cons k kr
          have HS := Lib.hid (And.intro s1 (And.intro s2 s3))
          clear s1 s2 s3
          have hk32 : k.length = 32 := HR6.out.each k (by simp)
          have Hk := Lib.hid hk32
          clear hk32
          go_wp2_with fail
          refine (rSm_any 1 AL nL cL (k :: kr) _ HR6.out).mono ?_
          unfold SomRet
          rw [List.length_cons, HS.out.1, HS.out.2.1, HS.out.2.2]
          rintro e w7 ⟨A1, n1, c1, A2, n2, c2, m, rfl, rfl, h1, h2, o1, o2⟩
          obtain rfl : n1 = 1 := by have := h1.len; simpa using this.symm
          have hn2 : n2 + 1 = nL := by have h3 := h2.len; have h4 := HLn.out; rw [List.length_cons] at h4; omega
          have hkd := (Kept.refl [] w6).drewN m
          have HR7d := Lib.hid (h2.kept0 hkd)
          have HX7 := Lib.hid (h1.kept0 hkd)
          have HK7 := Lib.hid (HK6.out.andThen hkd)
          have HD7 := Lib.hid (HD.kept0 HD6.out hkd)
          have HO7 : Hid (0 < n2 → Off A2 F) := Lib.hid (fun h => o2 F (HOL.out (by omega)))
          have HO1 : Hid (Off A1 F) := Lib.hid (o1 F (HOL.out (by omega)))
          have e0 : (w6.drewN m).cell? ⟨g, 0, none⟩ = some (.int .i64 2) := d0
          clear hkd h1 h2 o1 o2 d0 d1 d2
          go_wp2_with fail
          refine (HI _ p F k kr HD7.out Hk.out (HGL.out.kept0 HK7.out) (fun i hi => by have h1 := HF.out i hi; have h2 := HGL.out.lt; omega)).mono ?_
          rintro e w8 ⟨rfl, F', hd8, hk8, hF8⟩
          have HO8 : Hid (0 < n2 → Off A2 F') := Lib.hid (off_to HO7.out HR7d.out hF8)
          have HD8 := Lib.hid hd8
          have HR8 := Lib.hid (HR7d.out.kept hk8 HO7.out)
          have HX8 := Lib.hid (HX7.out.kept hk8 (fun _ => HO1.out))
          have HK8 : Hid (Kept [] w w8) := Lib.hid (HK7.out.trans hk8 (fun i hi => .inr (HF.out i hi)))
          have HF8 : Hid (∀ i, i ∈ F' → w.heap.size ≤ i) := Lib.hid (fun i hi => (hF8 i hi).elim (fun h => HF.out i h) (fun h => by have := HK7.out.size; omega))
          have HB8 := Lib.hid ((HB6.out.kept0 ((Kept.refl [] w6).drewN m)).kept hk8 HgF.out)
          clear hd8 hk8 hF8 HD7 HR7d HK7 e0
          go_wp2_with (with_reducible change wpList _ _ _ (⟨_, Op.alloc _, _, _, _, _⟩ :: _) _ _; refine wpList_alloc_blk rfl 40 rfl _ zeroId ?_)
          intro w9 hV9 hk9 hs9
          obtain ⟨y, hy⟩ : ∃ y, y = w8.heap.size := ⟨_, rfl⟩
          rw [← hy] at hV9 hs9 ⊢
          have ly : w8.heap.size ≤ y := by omega
          clear hy hs9
          have Hsz : Hid ((Tryd.prog.info? 40).map (·.size) = some (bvs (idL k)).length) := Lib.hid (size_of_len sizeId (idL_length k))
          have Hzl : Hid ((zb 16).length = (bvs (idL k)).length) := Lib.hid (by rw [zb_length, bvs_length, idL_length])
          have Hon : Hid (∀ v ∈ (bvs (idL k)), v.oneCell' = true) := Lib.hid (bvs_one _)
          go_wp2_with (with_reducible change wpList _ _ _ (⟨_, Op.store _ _ _, _, _, _, _⟩ :: _) _ _; refine wpList_store_blk rfl 40 (.tmp 17) (.tmp 114) rfl y (bvs (idL k)) rfl rfl 40 (zb 16) hV9 Hsz.out Hzl.out Hon.out ?_)
          intro w10 hV10 hk10 hs10
          have hK10 : Kept [] w8 w10 := hk9.trans hk10 (fun i hi => .inr (by have := List.mem_singleton.1 hi; omega))
          have HK10 := Lib.hid (HK8.out.andThen hK10)
          have HD10 := Lib.hid (HD.kept0 HD8.out hK10)
          have HR10 := Lib.hid (HR8.out.kept0 hK10)
          have HV10 := Lib.hid hV10
          have HX10 := Lib.hid (HX8.out.kept0 hK10)
          obtain ⟨bo, oo, k2, eo, ho2, _, hro, hbo⟩ := HX10.out.key (j := 0) (by omega)
          obtain rfl : k = k2 := by simpa using ho2
          subst eo
          have SK : Hid (∀ W, Kept [] w10 W → W.rangeAt y 0 (bvs (idL k)) ∧ W.rangeAt bo (oo + 0 * 32) (bvs k)) := Lib.hid (fun W h => ⟨(HV10.out.kept0 h).rangeOf, fun i v hv => (h.cell (p := ⟨bo, oo + 0 * 32 + i, none⟩) hbo (by simp)).trans (hro i v hv)⟩)
          clear ho2 hro hbo
          clear hV9 hk9 hV10 hk10 hs10 hK10 HK8 HD8 HR8 HV10 ly
          go_wp2
          have hHeld := SK.out _ (Kept.refl [] w10).drew
          refine wp_region_begin (fun W => W.rangeAt y 0 (bvs (idL k)) ∧ W.rangeAt bo (oo + 0 * 32) (bvs k)) (by kernel_rfl) ?_
          refine held_pureD 0 116 (.int .i64 0) rfl rfl (by kernel_rfl) (by kernel_rfl) (by kernel_rfl) rfl (fun w _ => rfl) hHeld ?_
          simp only [Act.put, List.setIfInBounds_toArray, List.set_cons_succ, List.set_cons_zero]
          refine held_pureD 1 117 (.int .i64 0) rfl rfl (by kernel_rfl) (by kernel_rfl) (by kernel_rfl) rfl (fun w _ => rfl) hHeld ?_
          simp only [Act.put, List.setIfInBounds_toArray, List.set_cons_succ, List.set_cons_zero]
          refine held_pureD 2 118 (.bool false) rfl rfl (by kernel_rfl) (by kernel_rfl) (by kernel_rfl) rfl (fun w _ => rfl) hHeld ?_
          simp only [Act.put, List.setIfInBounds_toArray, List.set_cons_succ, List.set_cons_zero]
          refine held_pureD 3 119 (.bool false) rfl rfl (by kernel_rfl) (by kernel_rfl) (by kernel_rfl) rfl (fun w _ => rfl) hHeld ?_
          simp only [Act.put, List.setIfInBounds_toArray, List.set_cons_succ, List.set_cons_zero]
          refine held_pureD 4 120 (.int .i64 0) rfl rfl (by kernel_rfl) (by kernel_rfl) (by kernel_rfl) rfl (fun w _ => rfl) hHeld ?_
          simp only [Act.put, List.setIfInBounds_toArray, List.set_cons_succ, List.set_cons_zero]
          refine held_pureD 5 121 (.bool true) rfl rfl (by kernel_rfl) (by kernel_rfl) (by kernel_rfl) rfl (fun w _ => rfl) hHeld ?_
          simp only [Act.put, List.setIfInBounds_toArray, List.set_cons_succ, List.set_cons_zero]
          refine held_pureD 6 122 (.bool true) rfl rfl (by kernel_rfl) (by kernel_rfl) (by kernel_rfl) rfl (fun w _ => rfl) hHeld ?_
          simp only [Act.put, List.setIfInBounds_toArray, List.set_cons_succ, List.set_cons_zero]
          refine held_loadD 7 123 rfl rfl (by kernel_rfl) (by kernel_rfl) (by kernel_rfl) rfl 40 (.tmp 17) rfl y (0) rfl (bvs (idL k)) _ (fun w h => h.1) arrId rfl Hsz.out hHeld ?_
          simp only [Act.put, List.setIfInBounds_toArray, List.set_cons_succ, List.set_cons_zero]
          refine held_pureD 8 124 (Value.slice (some ⟨bo, oo, none⟩) 1 c1) rfl rfl (by kernel_rfl) (by kernel_rfl) (by kernel_rfl) rfl (fun w _ => rfl) hHeld ?_
          simp only [Act.put, List.setIfInBounds_toArray, List.set_cons_succ, List.set_cons_zero]
          refine held_pureD 9 125 (Value.pointer (some ⟨bo, oo + 0 * 32, none⟩)) rfl rfl (by kernel_rfl) (by kernel_rfl) (by kernel_rfl) rfl (fun w _ => pure_idxK (.tmp 124) (.const (.int .i64 0)) rfl bo oo 1 c1 0 rfl rfl (by omega) w) hHeld ?_
          simp only [Act.put, List.setIfInBounds_toArray, List.set_cons_succ, List.set_cons_zero]
          refine held_loadD 10 126 rfl rfl (by kernel_rfl) (by kernel_rfl) (by kernel_rfl) rfl 32 (.tmp 125) rfl bo (oo + 0 * 32) rfl (bvs k) _ (fun w h => h.2) arr32b rfl (size_of_len size32 Hk.out) hHeld ?_
          simp only [Act.put, List.setIfInBounds_toArray, List.set_cons_succ, List.set_cons_zero]
          refine held_one 11 (by kernel_rfl) rfl ?_
          go_wp2_with fail
          refine (rId_any k _ Hk.out).mono ?_
          rintro e w11 ⟨rfl, hk11⟩
          have hK11 : Kept [] w10 w11 := (Kept.refl [] w10).drew.andThen hk11
          clear hk11 hHeld
          go_wp2
          change _ ∧ wpAnyH _ _ _ _ _ _ _ _ _
          refine ⟨SK.out _ hK11, ?_⟩
          have hHeld := SK.out _ hK11
          refine held_pureD 12 128 (.bool (!(idL k == idL k))) rfl rfl (by kernel_rfl) (by kernel_rfl) (by kernel_rfl) rfl (fun w _ => run_neqId _ _ (.tmp 123) (.tmp 127) _ rfl (idL k) (idL k) (idL_length k) (idL_length k) rfl rfl w) hHeld ?_
          simp only [Act.put, List.setIfInBounds_toArray, List.set_cons_succ, List.set_cons_zero]
          rw [Hkk.out _]
          refine held_pureD 13 129 (.bool false) rfl rfl (by kernel_rfl) (by kernel_rfl) (by kernel_rfl) rfl (fun w _ => rfl) hHeld ?_
          simp only [Act.put, List.setIfInBounds_toArray, List.set_cons_succ, List.set_cons_zero]
          refine held_pureD 14 130 (.bool false) rfl rfl (by kernel_rfl) (by kernel_rfl) (by kernel_rfl) rfl (fun w _ => rfl) hHeld ?_
          simp only [Act.put, List.setIfInBounds_toArray, List.set_cons_succ, List.set_cons_zero]
          refine held_pureD 15 131 (.bool false) rfl rfl (by kernel_rfl) (by kernel_rfl) (by kernel_rfl) rfl (fun w _ => rfl) hHeld ?_
          simp only [Act.put, List.setIfInBounds_toArray, List.set_cons_succ, List.set_cons_zero]
          refine held_pureD 16 132 (.int .i64 0) rfl rfl (by kernel_rfl) (by kernel_rfl) (by kernel_rfl) rfl (fun w _ => rfl) hHeld ?_
          simp only [Act.put, List.setIfInBounds_toArray, List.set_cons_succ, List.set_cons_zero]
          refine held_pureD 17 133 (.bool false) rfl rfl (by kernel_rfl) (by kernel_rfl) (by kernel_rfl) rfl (fun w _ => rfl) hHeld ?_
          simp only [Act.put, List.setIfInBounds_toArray, List.set_cons_succ, List.set_cons_zero]
          refine held_pureD 18 134 (.bool false) rfl rfl (by kernel_rfl) (by kernel_rfl) (by kernel_rfl) rfl (fun w _ => rfl) hHeld ?_
          simp only [Act.put, List.setIfInBounds_toArray, List.set_cons_succ, List.set_cons_zero]
          refine held_skipD 19 135 rfl rfl (by kernel_rfl) (by kernel_rfl) (by kernel_rfl) rfl hHeld ?_
          simp only [Act.put, List.setIfInBounds_toArray, List.set_cons_succ, List.set_cons_zero]
          refine held_skipD 20 136 rfl rfl (by kernel_rfl) (by kernel_rfl) (by kernel_rfl) rfl hHeld ?_
          simp only [Act.put, List.setIfInBounds_toArray, List.set_cons_succ, List.set_cons_zero]
          refine held_skipD 21 137 rfl rfl (by kernel_rfl) (by kernel_rfl) (by kernel_rfl) rfl hHeld ?_
          simp only [Act.put, List.setIfInBounds_toArray, List.set_cons_succ, List.set_cons_zero]
          refine held_pureD 22 138 (.bool false) rfl rfl (by kernel_rfl) (by kernel_rfl) (by kernel_rfl) rfl (fun w _ => rfl) hHeld ?_
          simp only [Act.put, List.setIfInBounds_toArray, List.set_cons_succ, List.set_cons_zero]
          refine held_pureD 23 139 (.bool false) rfl rfl (by kernel_rfl) (by kernel_rfl) (by kernel_rfl) rfl (fun w _ => rfl) hHeld ?_
          simp only [Act.put, List.setIfInBounds_toArray, List.set_cons_succ, List.set_cons_zero]
          refine held_done (by kernel_rfl) ?_
          clear hHeld
          have HKz := Lib.hid (HK10.out.andThen hK11)
          have HDz := Lib.hid (HD.kept0 HD10.out hK11)
          have HRz := Lib.hid (HR10.out.kept0 hK11)
          clear hK11
          clear HK10 HD10 HR10 SK HB8
          go_wp2_with fail
          refine (HD.left_ _ p F' kr HDz.out (by rw [HRz.out.len]; omega)).mono ?_
          rw [HRz.out.len]
          rintro e wL ⟨rfl, hkL⟩
          have HrL := Lib.hid (HRz.out.kept0 hkL)
          have HdL := Lib.hid (HD.kept0 HDz.out hkL)
          have hKL := HKz.out.andThen hkL
          clear hkL
          go_wp2
          go_roundw
          case rel => exact ⟨j + 1, kr, F', A2, n2, c2, by omega, by go_num, rfl, HrL, HO8, HdL, HF8, (by omega), hKL⟩
          case measure => simp [intOf]; omega
      · skip
        go_wp2_with fail
        refine (rSm_any 1 AL nL cL ks _ HR6.out).mono ?_
        unfold SomRet
        rintro e w7 ⟨A1, n1, c1, A2, n2, c2, m, rfl, rfl, h1, h2, o1, o2⟩
        have hkd := (Kept.refl [] w6).drewN m
        have HR7 := Lib.hid (HR6.out.kept0 hkd)
        have HK7 := Lib.hid (HK6.out.andThen hkd)
        have HD7 := Lib.hid (HD.kept0 HD6.out hkd)
        have HKm7 := Lib.hid (HKm6.out.kept0 hkd)
        have e0 : (w6.drewN m).cell? ⟨g, 0, none⟩ = some (.int .i64 3) := d0
        have e2 : (w6.drewN m).cell? ⟨g, 2, none⟩ = some (.slice AK nK cK) := d2
        have HOk : Hid (0 < nK → Off AK F) := Lib.hid (fun h a' e' hin => by
          obtain ⟨bk, ok, ek, hbk, _⟩ := HKm0.out.at_ h
          rw [e'] at ek
          injection ek with ek
          have h3 := HF.out _ hin
          rw [ek] at h3
          have : w.heap.size ≤ bk := h3
          omega)
        clear hkd h1 h2 o1 o2 d0 d1 d2
        go_wp2_with fail
        refine (HD.more _ p F ks AK nK cK km HD7.out HKm7.out HOk.out (by rw [HLn.out]; omega)).mono ?_
        rintro e w8 ⟨rfl, F', hd8, hk8, hF8⟩
        have HD8 := Lib.hid hd8
        have HR8 := Lib.hid (HR7.out.kept hk8 HOL.out)
        have HKm8 := Lib.hid (HKm7.out.kept hk8 HOk.out)
        have HK8 : Hid (Kept [] w w8) := Lib.hid (HK7.out.trans hk8 (fun i hi => .inr (HF.out i hi)))
        have HF8 : Hid (∀ i, i ∈ F' → w.heap.size ≤ i) := Lib.hid (fun i hi => (hF8 i hi).elim (fun h => HF.out i h) (fun h => by have := HK7.out.size; omega))
        have HB8 := Lib.hid ((HB6.out.kept0 ((Kept.refl [] w6).drewN m)).kept hk8 HgF.out)
        clear hd8 hk8 hF8 HD7 HR7 HK7 HKm7 e0 e2
        have SK : Hid (∀ W, Kept [] w8 W → W.cell? ⟨g, 2, none⟩ = some (.slice AK nK cK)) := Lib.hid (fun W h => (HB8.out.kept0 h).cell 2)
        go_wp2
        have hHeld := SK.out _ (Kept.refl [] w8).drew
        refine wp_region_begin (fun W => W.cell? ⟨g, 2, none⟩ = some (.slice AK nK cK)) (by kernel_rfl) ?_
        refine held_pureD 1 147 (Value.slice AL nL cL) rfl rfl (by kernel_rfl) (by kernel_rfl) (by kernel_rfl) rfl (fun w _ => rfl) hHeld ?_
        simp only [Act.put, List.setIfInBounds_toArray, List.set_cons_succ, List.set_cons_zero]
        refine held_pureD 3 149 (Value.pointer (some ⟨g, 2, none⟩)) rfl rfl (by kernel_rfl) (by kernel_rfl) (by kernel_rfl) rfl (fun w _ => rfl) hHeld ?_
        simp only [Act.put, List.setIfInBounds_toArray, List.set_cons_succ, List.set_cons_zero]
        refine held_pureD 4 150 (Value.slice AK nK cK) rfl rfl (by kernel_rfl) (by kernel_rfl) (by kernel_rfl) rfl (fun w h => pure_cellK 22 (.tmp 149) rfl ⟨g, 2, none⟩ _ rfl Tryd.isAgg22 w h) hHeld ?_
        simp only [Act.put, List.setIfInBounds_toArray, List.set_cons_succ, List.set_cons_zero]
        refine held_one 0 (by kernel_rfl) rfl ?_
        go_wp2
        change _ ∧ wpAnyH _ _ _ _ _ _ _ _ _
        have HO := Lib.hid (OwK.empty w8).drew
        have hk9 : Kept [] w8 ((w8.alloc (.cells #[] 32)).drew) := ((Kept.refl [] w8).alloc _).drew
        refine ⟨SK.out _ hk9, ?_⟩
        have HK9 := Lib.hid hk9
        clear hk9 hHeld
        refine held_one 2 (by kernel_rfl) rfl ?_
        refine wpList_append_keys rfl (.tmp 146) (.tmp 147) rfl (.slice (some ⟨w8.heap.size, 0, none⟩) 0 0) [] rfl HO.out AL nL cL ks rfl (HR8.out.kept0 HK9.out) (by simp only [List.length_nil]; omega) ?_
        intro v10 w10 ho10 hk10 hm10
        obtain ⟨hK10, hb10⟩ := app_new HK9.out (by intro g hg; simp [Value.ownBlock] at hg; omega) hk10 hm10
        have HO10 := Lib.hid ho10
        have HK10 := Lib.hid hK10
        have HB10 := Lib.hid hb10
        clear ho10 hk10 hm10 hK10 hb10 HO HK9
        go_wp2
        change _ ∧ wpAnyH _ _ _ _ _ _ _ _ _
        refine ⟨SK.out _ HK10.out, ?_⟩
        refine held_one 5 (by kernel_rfl) rfl ?_
        refine wpList_append_keys rfl (.tmp 148) (.tmp 150) rfl v10 ks rfl HO10.out AK nK cK km rfl (HKm8.out.kept0 HK10.out) (by rw [HLn.out]; omega) ?_
        intro v11 w11 ho11 hk11 hm11
        obtain ⟨hK11, hb11⟩ := app_new HK10.out HB10.out hk11 hm11
        obtain ⟨A11, n11, c11, rfl, hr11, _⟩ := ho11.form
        have HK11 := Lib.hid hK11
        have HB11 := Lib.hid hb11
        have HR11 := Lib.hid hr11
        clear ho11 hk11 hm11 hK11 hb11 hr11 HO10 HK10 HB10
        go_wp2
        change _ ∧ wpAnyH _ _ _ _ _ _ _ _ _
        refine ⟨SK.out _ HK11.out, ?_⟩
        refine held_one 6 (by kernel_rfl) rfl ?_
        go_wp2
        change _ ∧ wpAnyH _ _ _ _ _ _ _ _ _
        refine ⟨SK.out _ HK11.out, ?_⟩
        refine held_done (by kernel_rfl) ?_
        obtain rfl : n11 = nL + nK := by rw [← HR11.out.len, List.length_append, HLn.out, HKm8.out.len]
        have HO11 : Hid (0 < nL + nK → Off A11 F') := Lib.hid (fun _ a' e' hin => by
          have h3 := HD.foot HD8.out _ hin
          subst e'
          have h4 := HB11.out a'.block rfl
          omega)
        have HKz := Lib.hid (HK8.out.andThen HK11.out)
        have HDz := Lib.hid (HD.kept0 HD8.out HK11.out)
        clear HK8 HD8 HR8 HKm8 HB8 SK HK11 HB11
        go_wp2_with fail
        refine (HD.left_ _ p F' (ks ++ km) HDz.out (by rw [HR11.out.len]; omega)).mono ?_
        rw [HR11.out.len]
        rintro e wL ⟨rfl, hkL⟩
        have HrL := Lib.hid (HR11.out.kept0 hkL)
        have HdL := Lib.hid (HD.kept0 HDz.out hkL)
        have hKL := HKz.out.andThen hkL
        clear hkL
        go_wp2
        go_roundw
        case rel => exact ⟨j + 1, (ks ++ km), F', A11, (nL + nK), c11, by omega, by go_num, rfl, HrL, HO11, HdL, HF8, (by omega), hKL⟩
        case measure => simp [intOf]; omega
      · skip
        go_wp2_with fail
        refine (rSm_any 1 AL nL cL ks _ HR6.out).mono ?_
        unfold SomRet
        rintro e w7 ⟨A1, n1, c1, A2, n2, c2, m, rfl, rfl, h1, h2, o1, o2⟩
        have hkd := (Kept.refl [] w6).drewN m
        have HR7 := Lib.hid (HR6.out.kept0 hkd)
        have HK7 := Lib.hid (HK6.out.andThen hkd)
        have HD7 := Lib.hid (HD.kept0 HD6.out hkd)
        have e0 : (w6.drewN m).cell? ⟨g, 0, none⟩ = some (.int .i64 kind) := d0
        clear hkd h1 h2 o1 o2 d0 d1 d2
        go_wp2_with fail
        refine (HD.left_ _ p F ks HD7.out (by rw [HR7.out.len]; omega)).mono ?_
        rw [HR7.out.len]
        rintro e wL ⟨rfl, hkL⟩
        have HrL := Lib.hid (HR7.out.kept0 hkL)
        have HdL := Lib.hid (HD.kept0 HD7.out hkL)
        have hKL := HK7.out.andThen hkL
        clear hkL
        go_wp2
        go_roundw
        case rel => exact ⟨j + 1, ks, F, AL, nL, cL, by omega, by go_num, rfl, HrL, HOL, HdL, HF, (by omega), hKL⟩
        case measure => simp [intOf]; omega
    · obtain rfl : j = n' := by omega
      have HKw := Lib.hid hK
      clear hK
      go_wp2
      go_ret
      exact ⟨rfl, HKw.out⟩
end Go.Proofs.YtmhigipljplgdaaDoor
