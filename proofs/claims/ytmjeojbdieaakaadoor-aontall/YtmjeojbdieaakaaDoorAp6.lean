/-
  Contract of layer 11 (aont): what slices are, put together. No statement of the seed is proved here.
-/
import Derived.Test.YtmjeojbdieaakaaDoorPb
import Derived.Test.YtmjeojbdieaakaaDoorAp1
import Derived.Test.YtmjeojbdieaakaaDoorAo6
namespace Go.Proofs.YtmjeojbdieaakaaDoor
open Go.RowKit
set_option linter.unusedVariables false

/-- The hidden part, the last, the filling. -/
structure Parts (w : World) (v : Value) (B C : Nat) (all : List UInt8) : Prop where
  val : ∃ A1 A2 A3 c1 c2 c3, v = .agg #[.slice A1 (C + 16) c1, .slice A2 32 c2, .slice A3 (all.length - (C + 48)) c3] ∧ RdB w A1 (C + 16) c1 (all.take (C + 16)) ∧ RdB w A2 32 c2 ((all.drop (C + 16)).take 32) ∧ RdB w A3 (all.length - (C + 48)) c3 (all.drop (C + 48)) ∧ (∀ a, A1 = some a → B ≤ a.block) ∧ (∀ a, A2 = some a → B ≤ a.block) ∧ (∀ a, A3 = some a → B ≤ a.block)
theorem zeroPt : (Tryd.prog.info? 69).bind (·.zero) = some (.agg ([Value.slice none 0 0, Value.slice none 0 0, Value.slice none 0 0] : List Value).toArray) := by kernel_rfl
theorem sizePt : (Tryd.prog.info? 69).map (·.size) = some 3 := by kernel_rfl
theorem storePt {ops : Array Oper} {rest : List Oper} {o : Oper} {a : Act} {Q : Exit → Act → World → Prop} {w : World} (hgd : o.guard = none) (x y : Operand) (ho : o.op = .store 69 x y) (g : Nat) (A1 A2 A3 : Option Addr) (n1 n2 n3 c1 c2 c3 : Nat)
    (hx : a.eval x = .pointer (some ⟨g, 0, none⟩)) (hy : a.eval y = .agg #[.slice A1 n1 c1, .slice A2 n2 c2, .slice A3 n3 c3]) (hg : Blk w g 69 [Value.slice none 0 0, Value.slice none 0 0, Value.slice none 0 0])
    (h : ∀ w', Blk w' g 69 [.slice A1 n1 c1, .slice A2 n2 c2, .slice A3 n3 c3] → Kept [g] w w' → w'.heap.size = w.heap.size → wpList Tryd.prog ops Q rest (a.put o.dst undef) w') : wpList Tryd.prog ops Q (o :: rest) a w :=
  wpList_store_blk hgd 69 x y ho g [.slice A1 n1 c1, .slice A2 n2 c2, .slice A3 n3 c3] hx hy 69 _ hg sizePt rfl (by simp [Value.oneCell']) h
section
variable {P : Program} {w : World} {A : Option Addr} {n c : Nat} {bs : List UInt8}
theorem RdB.cutMidO (h : RdB w A n c bs) (t e : TypeId) (ht : P.underlying t = some (.slice e)) (hs : (P.info? e).map (·.size) = some 1) (l k : Nat) (y z : Int) (hy : y = (l : Int)) (hz : z = (k : Int)) (hl : l ≤ k) (hk : k ≤ n) :
    ∃ A', RdB w A' (k - l) (c - l) ((bs.drop l).take (k - l)) ∧ (∀ S, Off A S → Off A' S) ∧ ∀ W, (Instr.slice t (.slice A n c) (some (.int .i64 y)) (some (.int .i64 z)) none).run P W = .ok (.slice A' (k - l) (c - l)) W := by
  subst hy hz
  have hcap := h.cap
  refine ⟨_, (h.drop l (by omega)).take (k - l) (by omega), ?_, fun W => ?_⟩
  · intro S hS
    split
    · exact hS
    · exact off_add hS l
  have he : P.elem t = e := by simp [Program.elem, ht]
  rw [run_slice_lh (P := P) W t A n c (by rw [he]; exact ht) .i64 .i64 (l : Int) (k : Int) (by omega) (by omega) (by omega), size_of_elem t e ht hs W]
  simp [sliced, Result.andThen]
end
theorem size1pt : (Tryd.prog.info? 5).map (·.size) = some 1 := by kernel_rfl

set_option maxRecDepth 100000 in
set_option maxHeartbeats 2000000 in
theorem aPar_any (C : Nat) (A : Option Addr) (n c : Nat) (ls : List (List UInt8)) (w : World) (hr : RdL w A n c ls) (h1 : 1 ≤ n) (hn : n ≤ 1000) (hne : ∀ l, l ∈ ls → 0 < l.length) (hC : C ≤ 1024) (hF1 : C + 48 ≤ ls.flatten.length) (hF2 : ls.flatten.length ≤ 2000) :
    Calls Tryd.prog 34 #[.int .i64 (C : Int), .slice A n c] w fun e w' => ∃ v, e = .returned v ∧ Parts w' v w.heap.size C ls.flatten ∧ Kept [] w w' := by
  have HJ := Lib.hid (fun w hr => bJoin_any A n c ls w hr h1 hn hne (by omega))
  obtain ⟨F, hF⟩ : ∃ F, ls.flatten = F := ⟨_, rfl⟩
  rw [hF] at hF1 hF2 HJ ⊢
  obtain ⟨m, hm⟩ : ∃ m, F.length = m := ⟨_, rfl⟩
  rw [hm] at hF1 hF2 HJ
  have Hm := Lib.hid hm
  have HR := Lib.hid hr
  have b1 := hr.cap
  have b2 := hr.most
  unfold maxLen at b2
  have HN : Hid ((C : Int) + 16 = ((C + 16 : Nat) : Int)) := Lib.hid (by omega)
  clear hF hm hr hne
  go_enter Tryd.func34, Tryd.ntmps34
  go_wp2_with (with_reducible change wpList _ _ _ (⟨_, Op.alloc _, _, _, _, _⟩ :: _) _ _; refine wpList_alloc_blk rfl 69 rfl _ zeroPt ?_)
  intro w1 hP1 hk1 hs1
  go_wp2_with fail
  refine (HJ.out _ (HR.out.kept0 hk1)).mono ?_
  rintro e w2 ⟨g, q, rfl, hr2, hg2, hk2⟩
  have hP2 := hP1.kept0 hk2
  have hK2 := hk1.andThen hk2
  obtain ⟨p, hp⟩ : ∃ p, p = w.heap.size := ⟨_, rfl⟩
  rw [← hp] at hP2 hs1 ⊢
  have hpg : p ≠ g := by omega
  have lg : w.heap.size ≤ g := by omega
  have lp : w.heap.size ≤ p := by omega
  obtain ⟨J, hJ⟩ : ∃ J, J = C + 16 := ⟨_, rfl⟩
  obtain ⟨M, hM⟩ : ∃ M, M = C + 48 := ⟨_, rfl⟩
  have HJ2 : Hid ((C : Int) + 16 = (J : Int)) := Lib.hid (by omega)
  have p1 : IntKind.i64.wrap ((J : Int) + 32) = (M : Int) := by rw [IntWalk.i64_in _ (by omega)]; omega
  have hr1 := hr2.take J (by omega)
  have q1 := fun W => run_cut_first (P := Tryd.prog) 22 5 Tryd.underlying22 size1pt (some ⟨g, 0, none⟩) m q J (J : Int) rfl (by have := hr2.cap; omega) W
  obtain ⟨A2, hra, oa, q2⟩ := hr2.cutMidO (P := Tryd.prog) 22 5 Tryd.underlying22 size1pt J M (J : Int) (M : Int) rfl rfl (by omega) (by omega)
  obtain ⟨A3, hrb, ob, q3⟩ := hr2.cutFrom (P := Tryd.prog) 22 5 Tryd.underlying22 size1pt M (M : Int) rfl (by omega)
  have e1 : M - J = 32 := by omega
  rw [e1] at hra q2
  obtain ⟨c2, hc2⟩ : ∃ c2, q - J = c2 := ⟨_, rfl⟩
  obtain ⟨c3, hc3⟩ : ∃ c3, q - M = c3 := ⟨_, rfl⟩
  obtain ⟨n3, hn3⟩ : ∃ n3, m - M = n3 := ⟨_, rfl⟩
  rw [hc2] at hra q2
  rw [hc3, hn3] at hrb q3
  have z1 : (J : Int) ≤ (m : Int) := by omega
  have z2 : (M : Int) ≤ (m : Int) := by omega
  have z3 : (J : Int) ≤ (M : Int) := by omega
  have z4 : (0 : Int) ≤ (J : Int) := by omega
  have b3 := hr2.cap
  have b4 := hr2.most
  unfold maxLen at b4
  have z5 : (m : Int) ≤ (q : Int) := by omega
  have H1 := Lib.hid hr1
  have HO2 := Lib.hid oa
  have HO3 := Lib.hid ob
  have H2 := Lib.hid hra
  have H3 := Lib.hid hrb
  have HE : Hid (J = C + 16 ∧ n3 = F.length - (C + 48) ∧ M = C + 48) := Lib.hid ⟨hJ, by rw [Hm.out]; omega, hM⟩
  have HP2 := Lib.hid hP2
  have HK2 := Lib.hid hK2
  clear oa ob hr1 hra hrb hr2 hP1 hk1 hP2 hK2 hk2 hg2 hs1 hc2 hc3 hn3 hJ hM e1 HR HJ HN b1 b2 hp
  go_wp2_with (go_at_call 44; refine (aHs_any _ (by omega) (by omega) _).mono ?_; rw [HJ2.out]; rintro e w' ⟨rfl, rfl⟩)
  go_still_tail 13, (by kernel_rfl)
  change wpList _ _ _ _ _ w2.drew
  refine wpList_store_blk rfl 69 (.tmp 4) (.tmp 23) rfl p [.slice (some ⟨g, 0, none⟩) J q, .slice A2 32 c2, .slice A3 n3 c3] rfl rfl 69 _ HP2.out.drew sizePt rfl (by simp [Value.oneCell']) ?_
  intro w5 hP5 hk5 hs5
  have hS : ∀ A' : Option Addr, (∀ S, Off (some (⟨g, 0, none⟩ : Addr)) S → Off A' S) → Off A' [p] := fun A' h => h _ (fun a ha => by
    injection ha with ha
    subst ha
    simp only [List.mem_singleton]
    exact fun e => hpg e.symm)
  have hB : ∀ A' : Option Addr, (∀ S, Off (some (⟨g, 0, none⟩ : Addr)) S → Off A' S) → ∀ a, A' = some a → w.heap.size ≤ a.block := fun A' h a ha => by
    by_cases e : g = a.block
    · omega
    · exact absurd (h [a.block] (fun b hb => by
        injection hb with hb
        subst hb
        simp only [List.mem_singleton]
        exact e) a ha) (by simp)
  have hK5 : Kept [] w w5 := (HK2.out.drew).trans hk5 (fun i hi => .inr (by have := List.mem_singleton.1 hi; omega))
  go_wp2
  refine bodyPost_ret (results_blk rfl _ p 69 _ _ rfl hP5 Tryd.underlying69 rfl sizePt) rfl ?_
  obtain ⟨rfl, rfl, rfl⟩ := HE.out
  refine ⟨_, rfl, ⟨_, _, _, _, _, _, rfl, H1.out.drew.kept hk5 (hS _ (fun _ h => h)), H2.out.drew.kept hk5 (hS _ HO2.out), H3.out.drew.kept hk5 (hS _ HO3.out), hB _ (fun _ h => h), hB _ HO2.out, hB _ HO3.out⟩, hK5⟩
end Go.Proofs.YtmjeojbdieaakaaDoor
