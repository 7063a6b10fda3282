/-
  Contracts of layer 12 (draws): draws in memory, New, Some, More, Left. No statement of the seed is proved here.
-/
import Derived.Test.YtmhigipljplgdaaDoorDw0
import Derived.Test.YtmhigipljplgdaaDoorDrI
import Derived.Test.YtmhigipljplgdaaDoorPc
import Derived.Lib.Small
import Derived.StillTailTactics
namespace Go.Proofs.YtmhigipljplgdaaDoor
open Go.RowKit
set_option linter.unusedVariables false

/-- A row of keys of the call's own. -/
def ClK (ks : Ks) (w : World) (e : Ending) (w' : World) : Prop := ∃ v, e = .returned v ∧ OwK w' v ks ∧ Kept [] w w' ∧ ∀ g, v.ownBlock = some g → w.heap.size ≤ g
theorem kClone_any (A : Option Addr) (n c : Nat) (ks : Ks) (w : World) (hr : RdK w A n c ks) (hn : n ≤ 1000000000000) : Calls Tryd.prog 15 #[.slice A n c] w (ClK ks w) := by
  have hnil := @Lib.run_eql_slice_nil Tryd.prog
  rcases A with _ | a
  · have hb : ks = [] := by
      have hl := hr.len
      rcases Nat.eq_zero_or_pos n with h0 | h0
      · exact List.eq_nil_of_length_eq_zero (by omega)
      · obtain ⟨b, off, e, _⟩ := hr.cells h0
        cases e
    subst hb
    go_enter Tryd.func15, Tryd.ntmps15
    go_wp2
    go_ret
    exact ⟨_, rfl, OwK.nil _, Kept.refl _ _, by simp [Value.ownBlock]⟩
  · have HO := Lib.hid (OwK.empty w)
    have HA : Hid (Kept [] w (w.alloc (.cells #[] 32))) := Lib.hid ((Kept.refl [] w).alloc _)
    have HR := Lib.hid hr
    clear hr
    go_enter Tryd.func15, Tryd.ntmps15
    go_wp2_with (at_builtin; refine wpList_append_keys rfl (.tmp 5) (.tmp 6) rfl (.slice (some ⟨w.heap.size, 0, none⟩) 0 0) [] rfl HO.out (some a) n c ks rfl (HR.out.kept0 HA.out) (by simp only [List.length_nil]; omega) ?_)
    intro v2 w2 ho2 hk2 hm2
    obtain ⟨hK2, hb2⟩ := app_new HA.out (by intro g hg; simp [Value.ownBlock] at hg; omega) hk2 hm2
    have HO2 := Lib.hid ho2
    have HK2 := Lib.hid hK2
    have HB2 := Lib.hid hb2
    clear ho2 hK2 hb2 hk2 hm2 HO HA
    go_wp2
    go_ret
    exact ⟨_, rfl, HO2.out, HK2.out, HB2.out⟩

/-- Draws lie at p: ks are left; the blocks F are theirs alone. -/
def DrA (w : World) (p : Nat) (F : List Nat) (ks : Ks) : Prop :=
  ∃ A n c, Blk w p 50 [.slice A n c] ∧ LvK w (.slice A n c) ks ∧ (∀ g, (Value.slice A n c).ownBlock = some g → g ≠ p) ∧ F = p :: (Value.slice A n c).ownBlock.toList
theorem DrA.kept {w w' : World} {p : Nat} {F S : List Nat} {ks : Ks} (h : DrA w p F ks) (hk : Kept S w w') (hS : ∀ i, i ∈ F → i ∉ S) : DrA w' p F ks := by
  obtain ⟨A, n, c, hB, hL, hp, rfl⟩ := h
  exact ⟨A, n, c, hB.kept hk (hS p (by simp)), hL.kept hk (fun g hg => hS g (by simp [hg])), hp, rfl⟩
theorem DrA.foot {w : World} {p : Nat} {F : List Nat} {ks : Ks} (h : DrA w p F ks) : ∀ i, i ∈ F → i < w.heap.size := by
  obtain ⟨A, n, c, hB, hL, hp, rfl⟩ := h
  intro i hi
  rcases List.mem_cons.1 hi with rfl | hi
  · exact hB.lt
  · obtain ⟨_, _, _, e, _, hb⟩ := hL.form
    exact hb i (by simpa using hi)
theorem DrA.make {w : World} {p : Nat} {A : Option Addr} {n c : Nat} {ks : Ks} (hB : Blk w p 50 [.slice A n c]) (hL : LvK w (.slice A n c) ks) (hp : ∀ g, (Value.slice A n c).ownBlock = some g → g ≠ p) : DrA w p (p :: (Value.slice A n c).ownBlock.toList) ks :=
  ⟨A, n, c, hB, hL, hp, rfl⟩

set_option maxHeartbeats 1000000 in
theorem dNew_any (A : Option Addr) (n c : Nat) (ks : Ks) (w : World) (hr : RdK w A n c ks) (hn : n ≤ 1000) :
    Calls Tryd.prog 6 #[.slice A n c] w fun e w' => ∃ p F, e = .returned (.pointer (some ⟨p, 0, none⟩)) ∧ DrA w' p F ks ∧ Kept [] w w' ∧ ∀ i, i ∈ F → w.heap.size ≤ i := by
  go_enter Tryd.func6, Tryd.ntmps6
  go_wp2_with fail
  refine (kClone_any A n c ks _ hr (by omega)).mono ?_
  rintro e w1 ⟨v, rfl, ho1, hk1, hf1⟩
  obtain ⟨A1, n1, c1, rfl, _, hb1⟩ := ho1.form
  have HO1 := Lib.hid ho1
  have HK1 := Lib.hid hk1
  have HF1 := Lib.hid hf1
  have HB1 := Lib.hid hb1
  clear hr ho1 hk1 hf1 hb1
  go_wp2
  go_ret
  have hk2 := (Kept.refl [] w1).alloc (.cells #[.slice A1 n1 c1] 50)
  refine ⟨w1.heap.size, _, rfl, DrA.make (Blk.new w1 50 [.slice A1 n1 c1]) (.inl (HO1.out.kept0 hk2)) (fun g hg => by have := HB1.out g hg; omega), HK1.out.andThen hk2, fun i hi => ?_⟩
  rcases List.mem_cons.1 hi with rfl | hi
  · exact HK1.out.size
  · exact HF1.out i (by simpa using hi)

set_option maxRecDepth 100000 in
set_option maxHeartbeats 2000000 in
theorem dTake_any (w : World) (p : Nat) (F : List Nat) (ks : Ks) (k : Nat) (h : DrA w p F ks) (hk : k ≤ ks.length) (hb : k ≤ 100000) :
    Calls Tryd.prog 16 #[.pointer (some ⟨p, 0, none⟩), .int .i64 (k : Int)] w fun e w' => ∃ A n c, e = .returned (.slice A n c) ∧ RdK w' A n c (ks.take k) ∧ DrTo DrA p F (ks.drop k) w w' := by
  obtain ⟨A, n, c, hB, hL, hp, rfl⟩ := h
  obtain ⟨A', n', c', e, hr, hg⟩ := hL.form
  injection e with e1 e2 e3
  subst e1 e2 e3
  have hl := hr.len
  have hkn : k ≤ n := by omega
  have b1 := hr.cap
  have b2 := hr.most
  unfold maxLen at b2
  obtain ⟨hr1, q1⟩ := hr.cutTo k (k : Int) rfl hkn
  obtain ⟨A2, hL2, hO2, q2⟩ := hL.cut k (k : Int) rfl hkn
  have c0 : w.cell? ⟨p, 0, none⟩ = some (.slice A n c) := hB.cell 0
  have HB := Lib.hid hB
  have HL2 := Lib.hid hL2
  have HO2 := Lib.hid hO2
  have HR1 := Lib.hid hr1
  have Hp := Lib.hid hp
  have Hg := Lib.hid hg
  have Q2 := Lib.hid q2
  clear hB hL hL2 hO2 hr hr1 hp hg hk hl q2
  go_enter Tryd.func16, Tryd.ntmps16
  go_wp2_with fail
  refine (kClone_any A k c (ks.take k) _ HR1.out (by omega)).mono ?_
  rintro e w1 ⟨v, rfl, ho1, hk1, hf1⟩
  obtain ⟨A1, n1, c1, rfl, hr1, hb1⟩ := ho1.form
  have HB1 := Lib.hid (HB.out.kept0 hk1)
  have c2 : w1.cell? ⟨p, 0, none⟩ = some (.slice A n c) := HB1.out.cell 0
  have f2 : w1.frozen? ⟨p, 0, none⟩ = false := HB1.out.frz 0
  have HR2 := Lib.hid hr1
  have HK1 := Lib.hid hk1
  have HF1 := Lib.hid hf1
  have hlt := HB.out.lt
  have q3 := Q2.out
  have HL3 := HL2.out
  have HO3 := HO2.out
  obtain ⟨N, hN⟩ : ∃ N, N = n - k := ⟨_, rfl⟩
  rw [← hN] at q3 HL3 HO3
  have HL4 := Lib.hid HL3
  have HO4 := Lib.hid HO3
  clear HL2 HO2 HL3 HO3 Q2
  clear c0 q1 hr1 hk1 hf1 hb1 ho1 hN
  go_wp2
  go_still_tail 19, (by kernel_rfl)
  change wpList _ _ _ _ _ w1.drew
  go_wp2
  go_ret
  have hk3 : Kept [p] w1 (w1.drew.setCell ⟨p, 0, none⟩ (.slice A2 N N)) := ((Kept.refl [p] w1).drew).setCell (.inl (by simp)) _
  have hO := HO4.out
  have hp2 : ∀ g, (Value.slice A2 N N).ownBlock = some g → g ≠ p := by rw [hO]; exact Hp.out
  have hB3 : Blk (w1.drew.setCell ⟨p, 0, none⟩ (.slice A2 N N)) p 50 [.slice A2 N N] := (HB1.out.drew).set 0 _
  have hL3 := (HL4.out.kept0 HK1.out).kept hk3 (fun g hg => by have := hp2 g hg; simpa using this)
  refine ⟨A1, n1, c1, rfl, HR2.out.kept hk3 (fun _ => off_own (fun g hg => by have := HF1.out g hg; have : g ≠ p := by omega
                                                                              simpa using this)), _, DrA.make hB3 hL3 hp2, (HK1.out.mono (T := p :: (Value.slice A n c).ownBlock.toList) (by simp)).trans hk3 (by simp), ?_⟩
  rw [hO]
  exact fun i hi => .inl hi

/-- An answer of Some. -/
def SoRet (w : World) (p : Nat) (F : List Nat) (ks : Ks) (z : Int) (e : Ending) (w' : World) : Prop :=
  ∃ A n c, e = .returned (.tuple #[.slice A n c, .int .i64 (somE z ks.length)]) ∧ RdK w' A n c (somO z ks) ∧ DrTo DrA p F (somL z ks) w w'
theorem DrTo.refl {w : World} {p : Nat} {F : List Nat} {ks : Ks} (h : DrA w p F ks) : DrTo DrA p F ks w w := ⟨F, h, Kept.refl _ _, fun _ hi => .inl hi⟩
theorem dSome_no (w : World) (p : Nat) (F : List Nat) (ks : Ks) (z : Int) (h : DrA w p F ks) (hz1 : -9223372036854775808 ≤ z) (hz2 : z ≤ 9223372036854775807) (hz : z < 0 ∨ (0 ≤ z ∧ (ks.length : Int) < z)) :
    Calls Tryd.prog 9 #[.pointer (some ⟨p, 0, none⟩), .int .i64 z] w (SoRet w p F ks z) := by
  have HH := Lib.hid h
  obtain ⟨A, n, c, hB, hL, hp, rfl⟩ := h
  obtain ⟨A', n', c', e, hr, hg⟩ := hL.form
  injection e with e1 e2 e3
  subst e1 e2 e3
  have hl := hr.len
  have b1 := hr.cap
  have b2 := hr.most
  unfold maxLen at b2
  have c0 : w.cell? ⟨p, 0, none⟩ = some (.slice A n c) := hB.cell 0
  rcases hz with hz | ⟨hz, hz3⟩
  · have HE : Hid (somE z ks.length = 14) := Lib.hid (somE_arg _ hz)
    clear hB hL hr hp hg hl
    go_enter Tryd.func9, Tryd.ntmps9
    go_wp2
    go_ret2
    obtain ⟨e1, e2⟩ := som_no (z := z) (ks := ks) (by rw [HE.out]; decide)
    refine ⟨none, 0, 0, by rw [HE.out]; rfl, ?_, ?_⟩
    · rw [e1]; exact RdK.nil _
    · rw [e2]; exact DrTo.refl HH.out
  · have HE : Hid (somE z ks.length = 8) := Lib.hid (somE_few hz3)
    have hz4 : (n : Int) < z := by omega
    clear hB hL hr hp hg hl hz3
    go_enter Tryd.func9, Tryd.ntmps9
    go_wp2
    go_ret2
    obtain ⟨e1, e2⟩ := som_no (z := z) (ks := ks) (by rw [HE.out]; decide)
    refine ⟨none, 0, 0, by rw [HE.out]; rfl, ?_, ?_⟩
    · rw [e1]; exact RdK.nil _
    · rw [e2]; exact DrTo.refl HH.out
theorem dSome_ok (w : World) (p : Nat) (F : List Nat) (ks : Ks) (k : Nat) (h : DrA w p F ks) (hk : k ≤ ks.length) (hb : k ≤ 100000) :
    Calls Tryd.prog 9 #[.pointer (some ⟨p, 0, none⟩), .int .i64 (k : Int)] w (SoRet w p F ks (k : Int)) := by
  have HH := Lib.hid h
  have HE : Hid (somE (k : Int) ks.length = 0) := Lib.hid (somE_ok hk)
  have HS := Lib.hid (som_ok hk)
  obtain ⟨A, n, c, hB, hL, hp, hF⟩ := h
  obtain ⟨A', n', c', e, hr, hg⟩ := hL.form
  injection e with e1 e2 e3
  subst e1 e2 e3
  have hkn : k ≤ n := by rw [← hr.len]; exact hk
  have hk1 : ¬ ((n : Int) < (k : Int)) := by omega
  have b1 := hr.cap
  have b2 := hr.most
  unfold maxLen at b2
  have Hk := Lib.hid hk
  have c0 : w.cell? ⟨p, 0, none⟩ = some (.slice A n c) := hB.cell 0
  clear hB hL hr hp hg hF hk
  go_enter Tryd.func9, Tryd.ntmps9
  go_wp2_with fail
  refine (dTake_any _ p F ks k HH.out Hk.out hb).mono ?_
  rintro e w1 ⟨A1, n1, c1, rfl, hr1, hd1⟩
  have HR1 := Lib.hid hr1
  have HD1 := Lib.hid hd1
  clear hr1 hd1
  go_wp2
  go_ret2
  exact ⟨A1, n1, c1, by rw [HE.out]; rfl, by rw [HS.out.1]; exact HR1.out, by rw [HS.out.2]; exact HD1.out⟩
theorem dSome_any (w : World) (p : Nat) (F : List Nat) (ks : Ks) (z : Int) (h : DrA w p F ks) (hz1 : -9223372036854775808 ≤ z) (hz2 : z ≤ 9223372036854775807) (hk : ks.length ≤ 100000) :
    Calls Tryd.prog 9 #[.pointer (some ⟨p, 0, none⟩), .int .i64 z] w (SoRet w p F ks z) := by
  rcases (by omega : z < 0 ∨ (0 ≤ z ∧ (ks.length : Int) < z) ∨ (0 ≤ z ∧ z ≤ (ks.length : Int))) with h1 | h1 | ⟨h1, h2⟩
  · exact dSome_no w p F ks z h hz1 hz2 (.inl h1)
  · exact dSome_no w p F ks z h hz1 hz2 (.inr h1)
  · obtain ⟨k, rfl⟩ := Int.eq_ofNat_of_zero_le h1
    exact dSome_ok w p F ks k h (by omega) (by omega)

theorem dLeft_any (w : World) (p : Nat) (F : List Nat) (ks : Ks) (h : DrA w p F ks) : Calls Tryd.prog 14 #[.pointer (some ⟨p, 0, none⟩)] w fun e w' => e = .returned (.int .i64 ks.length) ∧ Kept [] w w' := by
  obtain ⟨A, n, c, hB, hL, hp, rfl⟩ := h
  obtain ⟨A', n', c', e, hr, hg⟩ := hL.form
  injection e with e1 e2 e3
  subst e1 e2 e3
  have Hl := Lib.hid hr.len
  have b1 := hr.cap
  have b2 := hr.most
  unfold maxLen at b2
  have c0 : w.cell? ⟨p, 0, none⟩ = some (.slice A n c) := hB.cell 0
  clear hB hL hr hp hg
  go_enter Tryd.func14, Tryd.ntmps14
  go_wp2
  go_ret
  exact ⟨by rw [Hl.out]; rfl, Kept.refl _ _⟩

set_option maxHeartbeats 1000000 in
theorem dMore_any (w : World) (p : Nat) (F : List Nat) (ks : Ks) (B : Option Addr) (m d : Nat) (ms : Ks) (h : DrA w p F ks) (hr : RdK w B m d ms) (hlen : ks.length + m ≤ 100000) :
    Calls Tryd.prog 13 #[.pointer (some ⟨p, 0, none⟩), .slice B m d] w fun e w' => e = .returned (.tuple #[]) ∧ DrTo DrA p F (ks ++ ms) w w' := by
  obtain ⟨A, n, c, hB, hL, hp, rfl⟩ := h
  have HR := Lib.hid hr
  have HB := Lib.hid hB
  have HL := Lib.hid hL
  have Hp := Lib.hid hp
  have c0 : w.cell? ⟨p, 0, none⟩ = some (.slice A n c) := hB.cell 0
  clear hB hL hr hp
  go_enter Tryd.func13, Tryd.ntmps13
  go_wp2_with (at_builtin; refine wpList_append_lv rfl (.tmp 10) (.tmp 11) rfl (.slice A n c) ks rfl HL.out B m d ms rfl HR.out (by omega) ?_)
  intro v1 w1 hl1 hk1 hm1
  obtain ⟨A1, n1, c1, rfl, _, hb1⟩ := hl1.form
  have hpS : p ∉ (Value.slice A n c).ownBlock.toList := fun hm => by
    have := Hp.out p (by simpa using hm)
    exact this rfl
  have HB1 := Lib.hid (HB.out.kept hk1 hpS)
  have hp1 : ∀ g, (Value.slice A1 n1 c1).ownBlock = some g → g ≠ p := fun g hg => by
    rcases hm1 g hg with h | h
    · exact Hp.out g h
    · have := HB.out.lt; omega
  have HL1 := Lib.hid hl1
  have HK1 := Lib.hid hk1
  have HM1 := Lib.hid hm1
  have Hp1 := Lib.hid hp1
  have f1 : w1.frozen? ⟨p, 0, none⟩ = false := HB1.out.frz 0
  have c1' : w1.cell? ⟨p, 0, none⟩ = some (.slice A n c) := HB1.out.cell 0
  clear hl1 hk1 hm1 hp1 hpS hb1 c0
  go_wp2
  go_end0
  have hk2 : Kept [p] w1 (w1.setCell ⟨p, 0, none⟩ (.slice A1 n1 c1)) := (Kept.refl [p] w1).setCell (.inl (by simp)) _
  have hB2 : Blk (w1.setCell ⟨p, 0, none⟩ (.slice A1 n1 c1)) p 50 [.slice A1 n1 c1] := HB1.out.set 0 _
  have hL2 := HL1.out.kept hk2 (fun g hg => by have := Hp1.out g hg; simpa using this)
  refine ⟨rfl, _, DrA.make hB2 hL2 Hp1.out, ?_, fun i hi => ?_⟩
  · exact (HK1.out.mono (T := p :: (Value.slice A n c).ownBlock.toList) (fun i hi => .inl (by simp [hi]))).trans hk2 (fun i hi => .inl (by have := List.mem_singleton.1 hi; simp [this]))
  · rcases List.mem_cons.1 hi with rfl | hi
    · exact .inl (by simp)
    · rcases HM1.out i (by simpa using hi) with h | h
      · exact .inl (by simp [h])
      · exact .inr h
end Go.Proofs.YtmhigipljplgdaaDoor
