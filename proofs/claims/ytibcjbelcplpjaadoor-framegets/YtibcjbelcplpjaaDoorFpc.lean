/-
  Contracts of layer 13 (frame): what Get and Of have done for them. No statement of the seed is proved here.
-/
import Derived.Test.YtibcjbelcplpjaaDoorFpa
import Derived.Test.YtibcjbelcplpjaaDoorFp8
import Derived.Test.YtibcjbelcplpjaaDoorFp9
import Derived.Test.YtibcjbelcplpjaaDoorPd
import Derived.Test.YtibcjbelcplpjaaDoorFrJ
namespace Go.Proofs.YtibcjbelcplpjaaDoor
open Go.RowKit
set_option linter.unusedVariables false

theorem frGt_short {key b : List UInt8} (h : b.length < 32) : frGet key b = (fr0, 1) := by unfold frGet; rw [if_pos h]
theorem frGt_tag {key bs : List UInt8} {m : Nat} (hl : bs.length = m + 32) (h : hTag key (bs.take m) ≠ bs.drop m) : frGet key bs = (fr0, 4) := by
  unfold frGet
  rw [if_neg (by omega), show bs.length - 32 = m by omega, if_pos (fun e => h (tag_iff.1 e))]
theorem frGt_pick {key bs : List UInt8} {m : Nat} (hl : bs.length = m + 32) (h : hTag key (bs.take m) = bs.drop m) : frGet key bs = frPick (bs.take m) := by
  unfold frGet
  rw [if_neg (by omega), show bs.length - 32 = m by omega, if_neg (fun e => e (tag_iff.2 h))]
theorem frPk_err {p : List UInt8} (h : (frPick p).2 ≠ 0) : (frPick p).1 = fr0 := by
  revert h
  unfold frPick
  split
  · simp
  split
  · simp
  split
  · simp
  split
  · simp
  · simp
/-- A frame that was told into a variable, or what is wrong. -/
def InV (h : Nat) (y : Fr × Nat) (w : World) (e : Ending) (w' : World) : Prop :=
  ∃ er : Nat, Told er e ∧ Kept [h] w w' ∧ er = y.2 ∧ ∃ A n c, Blk w' h 28 (frc y.1 A n c) ∧ FrAt w' y.1 A n c ∧ ∀ q, (Value.slice A n c).ownBlock = some q → w.heap.size ≤ q
theorem inV_no {h : Nat} {er : Nat} {w w' : World} {e : Ending} (he : er ≠ 0) (ht : Throw er e) (hk : Kept [] w w') (hH : Blk w h 28 (frc fr0 none 0 0)) : InV h (fr0, er) w e w' :=
  ⟨er, .inr ⟨he, ht⟩, hk.mono (by simp), rfl, none, 0, 0, hH.kept0 hk, fr0_at _, by simp [Value.ownBlock]⟩

set_option maxRecDepth 100000 in
set_option maxHeartbeats 4000000 in
theorem fGt1_any (key bs : List UInt8) (A : Option Addr) (n c a s h : Nat) (w : World) (hkl : key.length = 32) (hA : Blk w a 23 (bvs key)) (hS : Blk w s 26 [.slice A n c]) (hr : RdB w A n c bs) (hn : n ≤ 100000) (hH : Blk w h 28 (frc fr0 none 0 0)) (hgl : Glob w) :
    Calls Tryd.prog 27 #[.pointer (some ⟨a, 0, none⟩), .pointer (some ⟨s, 0, none⟩), .pointer (some ⟨h, 0, none⟩)] w (InV h (frGet key bs) w) := by
  have HA := Lib.hid hA
  have HH := Lib.hid hH
  have HR := Lib.hid hr
  have Hgl := Lib.hid hgl
  have Hkl := Lib.hid hkl
  have Hlen := Lib.hid hr.len
  have Hsk := Lib.hid (size_of_len (P := Tryd.prog) (ty := 23) size32 hkl)
  have c0 : w.cell? ⟨s, 0, none⟩ = some (.slice A n c) := hS.cell 0
  clear hA hH hr hgl hkl hS
  rcases Nat.lt_or_ge n 32 with hn1 | hn1
  · rw [frGt_short (by rw [Hlen.out]; exact hn1)]
    go_enter Tryd.func27, Tryd.ntmps27
    go_wp2_with (with_reducible change wpList _ _ _ (⟨_, Op.load 23 _, _, _, _, _⟩ :: _) _ _; refine wpList_load_blk rfl 23 (.tmp 0) rfl a rfl 23 _ _ HA.out arr32b rfl Hsk.out ?_)
    refine (fUt_short key A n c bs _ HR.out hn1).mono ?_
    rintro e w1 ⟨h2, hk1⟩
    unfold Throw at h2
    subst h2
    exact ⟨rfl, inV_no (by omega) rfl hk1 HH.out⟩
  · obtain ⟨m, hm⟩ : ∃ m, n = m + 32 := ⟨n - 32, by omega⟩
    have Hm := Lib.hid hm
    obtain ⟨Y, hY⟩ : ∃ Y, frGet key bs = Y := ⟨_, rfl⟩
    have HY := Lib.hid hY
    rw [hY]
    clear hm hY
    go_enter Tryd.func27, Tryd.ntmps27
    go_wp2_with (with_reducible change wpList _ _ _ (⟨_, Op.load 23 _, _, _, _, _⟩ :: _) _ _; refine wpList_load_blk rfl 23 (.tmp 0) rfl a rfl 23 _ _ HA.out arr32b rfl Hsk.out ?_)
    refine (fUt_any key A n c m bs _ Hkl.out HR.out Hm.out hn Hgl.out).mono ?_
    rintro e w1 ⟨hk1, ⟨ht, A1, rfl, hr1⟩ | ⟨ht, h2⟩⟩
    · have HP : Hid (frPick (bs.take m) = Y) := Lib.hid (by rw [← HY.out]; exact (frGt_pick (by rw [Hlen.out, Hm.out]) ht).symm)
      have HK1 := Lib.hid hk1
      have HR1 := Lib.hid hr1
      clear ht hk1 hr1
      go_wp2_with fail
      refine (fTk_any A1 m c (bs.take m) _ HR1.out (by have := Hm.out; omega)).mono ?_
      unfold TkRet
      rw [HP.out]
      rintro e w2 ⟨hk2, ⟨h0, A2, n2, c2, rfl, hF2, hq2⟩ | ⟨h0, h2⟩⟩
      · have HH2 := Lib.hid (HH.out.kept0 (HK1.out.andThen hk2))
        have HK2 := Lib.hid (HK1.out.andThen hk2)
        have HF2 := Lib.hid hF2
        have HQ2 : Hid (∀ q, (Value.slice A2 n2 c2).ownBlock = some q → w.heap.size ≤ q) := Lib.hid (fun q hq => by have h1 := hq2 q hq; have h2 := HK1.out.size; omega)
        have HSf := Lib.hid (frc_size (A := A2) (n := n2) (c := c2) hF2.obj)
        have HS0 : Hid ((frc fr0 none 0 0).length = (frc Y.1 A2 n2 c2).length) := Lib.hid (by rw [frc_length (by unfold fr0; simp), frc_length hF2.obj])
        have HSo := Lib.hid (frc_one Y.1 A2 n2 c2)
        have H0 := Lib.hid h0
        have Hh : Hid (h < w.heap.size) := Lib.hid HH.out.lt
        obtain ⟨L, hL⟩ : ∃ L, frc Y.1 A2 n2 c2 = L := ⟨_, rfl⟩
        have HL := Lib.hid hL
        rw [hL] at HSf HS0 HSo ⊢
        clear hk2 hF2 hq2 h0 hL
        go_wp2_with (with_reducible change wpList _ _ _ (⟨_, Op.store _ _ _, _, _, _, _⟩ :: _) _ _; refine wpList_store_blk rfl 28 (.tmp 2) (.tmp 6) rfl h L rfl rfl 28 _ HH2.out HSf.out HS0.out HSo.out ?_)
        intro w3 hH3 hk3 hs3
        go_wp2
        go_end0
        rw [← HL.out] at hH3
        exact ⟨0, .inl ⟨rfl, rfl⟩, (HK2.out.mono (by simp)).trans hk3 (fun i hi => .inl hi), H0.out.symm, A2, n2, c2, hH3, HF2.out.kept hk3 (fun _ => off_ownS (fun q hq => by have h1 := HQ2.out q hq; have h2 := Hh.out; simp; omega)), HQ2.out⟩
      · unfold Throw at h2
        subst h2
        have hY0 : Y.1 = fr0 := by rw [← HP.out] at h0 ⊢; exact frPk_err h0
        refine ⟨rfl, ?_⟩
        have := inV_no (h := h) h0 (rfl : Throw Y.2 _) (HK1.out.andThen hk2) HH.out
        rw [← hY0] at this
        exact this
    · unfold Throw at h2
      subst h2
      have hY2 : Y = (fr0, 4) := by rw [← HY.out]; exact frGt_tag (by rw [Hlen.out, Hm.out]) ht
      rw [hY2]
      exact ⟨rfl, inV_no (by omega) rfl hk1 HH.out⟩

set_option maxRecDepth 100000 in
set_option maxHeartbeats 8000000 in
theorem fOf1_any (key bs o : List UInt8) (z : Int) (A : Option Addr) (n c a s b x h : Nat) (w : World) (hkl : key.length = 32) (hol : o.length = 16) (hA : Blk w a 23 (bvs key)) (hS : Blk w s 26 [.slice A n c]) (hB : Blk w b 25 (bvs o)) (hX : Blk w x 3 [.int .i64 z]) (hr : RdB w A n c bs) (hn : n ≤ 100000) (hH : Blk w h 28 (frc fr0 none 0 0)) (hgl : Glob w) :
    Calls Tryd.prog 31 #[.pointer (some ⟨a, 0, none⟩), .pointer (some ⟨s, 0, none⟩), .pointer (some ⟨b, 0, none⟩), .pointer (some ⟨x, 0, none⟩), .pointer (some ⟨h, 0, none⟩)] w (InV h (frOf key o z bs) w) := by
  have HA := Lib.hid hA
  have HB := Lib.hid hB
  have HX := Lib.hid hX
  have HH := Lib.hid hH
  have HR := Lib.hid hr
  have Hgl := Lib.hid hgl
  have Hkl := Lib.hid hkl
  have Hol := Lib.hid hol
  have Hlen := Lib.hid hr.len
  have Hsk := Lib.hid (size_of_len (P := Tryd.prog) (ty := 23) size32 hkl)
  have Hso := Lib.hid (size_of_len (P := Tryd.prog) (ty := 25) sizeId hol)
  have c0 : w.cell? ⟨s, 0, none⟩ = some (.slice A n c) := hS.cell 0
  clear hA hH hr hgl hkl hS hB hX hol
  have hOf : ∀ Y, frGet key bs = Y → Y.2 ≠ 0 → frOf key o z bs = (fr0, Y.2) := fun Y h1 h2 => by unfold frOf; rw [h1, if_pos h2]
  rcases Nat.lt_or_ge n 32 with hn1 | hn1
  · rw [hOf _ (frGt_short (by rw [Hlen.out]; exact hn1)) (by simp)]
    clear hOf
    go_enter Tryd.func31, Tryd.ntmps31
    go_wp2_with (with_reducible change wpList _ _ _ (⟨_, Op.load 23 _, _, _, _, _⟩ :: _) _ _; refine wpList_load_blk rfl 23 (.tmp 0) rfl a rfl 23 _ _ HA.out arr32b rfl Hsk.out ?_)
    refine (fUt_short key A n c bs _ HR.out hn1).mono ?_
    rintro e w1 ⟨h2, hk1⟩
    unfold Throw at h2
    subst h2
    exact ⟨rfl, inV_no (by omega) rfl hk1 HH.out⟩
  · obtain ⟨m, hm⟩ : ∃ m, n = m + 32 := ⟨n - 32, by omega⟩
    have Hm := Lib.hid hm
    obtain ⟨Y, hY⟩ : ∃ Y, frGet key bs = Y := ⟨_, rfl⟩
    have HY := Lib.hid hY
    have HO : Hid (Y.2 ≠ 0 → frOf key o z bs = (fr0, Y.2)) := Lib.hid (hOf Y hY)
    have HO2 : Hid (Y.2 = 0 → frOf key o z bs = if Y.1.obj ≠ o ∨ Y.1.idx ≠ z then (fr0, 11) else (Y.1, 0)) := Lib.hid (fun h => by unfold frOf; rw [hY, if_neg (by simp [h])])
    clear hm hY hOf
    go_enter Tryd.func31, Tryd.ntmps31
    go_wp2_with (with_reducible change wpList _ _ _ (⟨_, Op.load 23 _, _, _, _, _⟩ :: _) _ _; refine wpList_load_blk rfl 23 (.tmp 0) rfl a rfl 23 _ _ HA.out arr32b rfl Hsk.out ?_)
    refine (fUt_any key A n c m bs _ Hkl.out HR.out Hm.out hn Hgl.out).mono ?_
    rintro e w1 ⟨hk1, ⟨ht, A1, rfl, hr1⟩ | ⟨ht, h2⟩⟩
    · have HP : Hid (frPick (bs.take m) = Y) := Lib.hid (by rw [← HY.out]; exact (frGt_pick (by rw [Hlen.out, Hm.out]) ht).symm)
      have HK1 := Lib.hid hk1
      have HR1 := Lib.hid hr1
      clear ht hk1 hr1
      go_wp2_with fail
      refine (fTk_any A1 m c (bs.take m) _ HR1.out (by have := Hm.out; omega)).mono ?_
      unfold TkRet
      rw [HP.out]
      rintro e w2 ⟨hk2, ⟨h0, A2, n2, c2, rfl, hF2, hq2⟩ | ⟨h0, h2⟩⟩
      · have hK2 := HK1.out.andThen hk2
        have HH2 := Lib.hid (HH.out.kept0 hK2)
        have HB2 := Lib.hid (HB.out.kept0 hK2)
        have HX2 := Lib.hid (HX.out.kept0 hK2)
        have HK2 := Lib.hid hK2
        have HF2 := Lib.hid hF2
        have HQ2 : Hid (∀ q, (Value.slice A2 n2 c2).ownBlock = some q → w.heap.size ≤ q) := Lib.hid (fun q hq => by have h1 := hq2 q hq; have h2 := HK1.out.size; omega)
        have HO3 := Lib.hid (HO2.out h0)
        obtain ⟨f, hf⟩ : ∃ f, Y.1 = f := ⟨_, rfl⟩
        rw [hf] at HO3 HF2 ⊢
        have HSf := Lib.hid (frc_size (A := A2) (n := n2) (c := c2) HF2.out.obj)
        have HS0 : Hid ((frc fr0 none 0 0).length = (frc f A2 n2 c2).length) := Lib.hid (by rw [frc_length (by unfold fr0; simp), frc_length HF2.out.obj])
        have HSo := Lib.hid (frc_one f A2 n2 c2)
        have HSi := Lib.hid (size_of_len (P := Tryd.prog) (ty := 25) sizeId HF2.out.obj)
        have HFo := Lib.hid HF2.out.obj
        obtain ⟨L, hL⟩ : ∃ L, frc f A2 n2 c2 = L := ⟨_, rfl⟩
        have HL := Lib.hid hL
        rw [hL] at HSf HS0 HSo ⊢
        clear hK2 hk2 hF2 hq2 h0 HO HO2 HY HP HK1 hf hL
        go_wp2_with (with_reducible change wpList _ _ _ (⟨_, Op.alloc _, _, _, _, _⟩ :: _) _ _; refine wpList_alloc_blk rfl 28 rfl _ zeroFr ?_)
        intro w3 hT3 hk3 hs3
        obtain ⟨t, ht⟩ : ∃ t, t = w2.heap.size := ⟨_, rfl⟩
        rw [← ht] at hT3 ⊢
        have T0 := Lib.hid ht
        clear ht
        go_wp2_with (with_reducible change wpList _ _ _ (⟨_, Op.store _ _ _, _, _, _, _⟩ :: _) _ _; refine wpList_store_blk rfl 28 (.tmp 5) (.tmp 9) rfl t L rfl rfl 28 _ hT3 HSf.out HS0.out HSo.out ?_)
        intro w4 hT4 hk4 hs4
        have hk24 : Kept [] w2 w4 := hk3.trans hk4 (fun i hi => .inr (by have := List.mem_singleton.1 hi; have := T0.out; omega))
        have HT4 : Hid (FrB w4 t f A2 n2 c2) := Lib.hid ⟨by rw [HL.out]; exact hT4, HFo.out⟩
        have HTL := Lib.hid hT4
        have HH4 := Lib.hid (HH2.out.kept0 hk24)
        have HB4 := Lib.hid (HB2.out.kept0 hk24)
        have HK4 := Lib.hid (HK2.out.andThen hk24)
        have HF4 := Lib.hid (HF2.out.kept0 hk24)
        have c1 : w4.cell? ⟨x, 0, none⟩ = some (.int .i64 z) := (HX2.out.kept0 hk24).cell 0
        have c2' : w4.cell? ⟨t, 16, none⟩ = some (.int .i64 f.idx) := HT4.out.idx
        have HRg := Lib.hid HT4.out.range
        have Hth : Hid (h < w.heap.size ∧ w.heap.size ≤ t) := Lib.hid ⟨HH.out.lt, by have := HK2.out.size; have := T0.out; omega⟩
        obtain ⟨b0, hb0⟩ : ∃ b0, (f.obj == o) = b0 := ⟨_, rfl⟩
        have HN : Hid (∀ (oo : Oper) (ev : Operand → Value) (x y : Operand) (u : TypeId) (ho : oo.op = .binOp .neq 25 x y u) (hx : ev x = .agg (bvs f.obj).toArray) (hy : ev y = .agg (bvs o).toArray) (w : World), (execOp ev oo).run Tryd.prog w = .ok (.value (.bool (!b0))) w) :=
          Lib.hid (fun oo ev x y u ho hx hy w => by rw [← hb0]; exact run_neqId oo ev x y u ho f.obj o HFo.out Hol.out hx hy w)
        obtain ⟨zi, hzi⟩ : ∃ zi, f.idx = zi := ⟨_, rfl⟩
        rw [hzi] at c2' HO3
        have HB0 := Lib.hid hb0
        clear hT3 hk3 hs3 hT4 hk4 hs4 hk24 hb0 hzi HH2 HB2 HX2 HK2 HF2
        cases b0 with
        | false =>
          have HE : Hid (frOf key o z bs = (fr0, 11)) := Lib.hid (by rw [HO3.out, if_pos (.inl (by have := HB0.out; simpa using this))])
          go_wp2_with (first
            | (with_reducible change wpList _ _ _ (⟨_, Op.load 25 (.tmp 10), _, _, _, _⟩ :: _) _ _; refine wpList_load_mid rfl 25 (.tmp 10) rfl t 0 rfl _ _ HRg.out arrId rfl HSi.out ?_)
            | (with_reducible change wpList _ _ _ (⟨_, Op.load 25 (.tmp 2), _, _, _, _⟩ :: _) _ _; refine wpList_load_blk rfl 25 (.tmp 2) rfl b rfl 25 _ _ HB4.out arrId rfl Hso.out ?_)
            | (with_reducible change wpList _ _ _ (⟨_, Op.binOp .neq 25 _ _ _, _, _, _, _⟩ :: _) _ _; refine wpList_val rfl _ (HN.out _ _ (.tmp 11) (.tmp 12) _ rfl rfl rfl _) ?_))
          exact ⟨rfl, by rw [HE.out]; exact inV_no (by omega) rfl HK4.out HH.out⟩
        | true =>
          by_cases hz : zi = z
          · subst hz
            have HE : Hid (frOf key o zi bs = (f, 0)) := Lib.hid (by rw [HO3.out, if_neg (by have := HB0.out; simpa using this)])
            go_wp2_with (first
              | (with_reducible change wpList _ _ _ (⟨_, Op.load 25 (.tmp 10), _, _, _, _⟩ :: _) _ _; refine wpList_load_mid rfl 25 (.tmp 10) rfl t 0 rfl _ _ HRg.out arrId rfl HSi.out ?_)
              | (with_reducible change wpList _ _ _ (⟨_, Op.load 25 (.tmp 2), _, _, _, _⟩ :: _) _ _; refine wpList_load_blk rfl 25 (.tmp 2) rfl b rfl 25 _ _ HB4.out arrId rfl Hso.out ?_)
              | (with_reducible change wpList _ _ _ (⟨_, Op.binOp .neq 25 _ _ _, _, _, _, _⟩ :: _) _ _; refine wpList_val rfl _ (HN.out _ _ (.tmp 11) (.tmp 12) _ rfl rfl rfl _) ?_)
              | (with_reducible change wpList _ _ _ (⟨_, Op.load 28 (.tmp 5), _, _, _, _⟩ :: _) _ _; refine wpList_load_blk rfl 28 (.tmp 5) rfl t rfl 28 _ _ HTL.out Tryd.underlying28 rfl HSf.out ?_)
              | (with_reducible change wpList _ _ _ (⟨_, Op.store _ _ _, _, _, _, _⟩ :: _) _ _; refine wpList_store_blk rfl 28 (.tmp 4) (.tmp 21) rfl h L rfl rfl 28 _ HH4.out HSf.out HS0.out HSo.out ?_))
            intro w5 hH5 hk5 hs5
            go_wp2
            go_end0
            rw [← HL.out] at hH5
            change InV h (frOf key o zi bs) w _ _
            rw [HE.out]
            exact ⟨0, .inl ⟨rfl, rfl⟩, (HK4.out.mono (by simp)).trans hk5 (fun i hi => .inl hi), rfl, A2, n2, c2, hH5, HF4.out.kept hk5 (fun _ => off_ownS (fun q hq => by have h1 := HQ2.out q hq; have h2 := Hth.out.1; simp; omega)), HQ2.out⟩
          · have HE : Hid (frOf key o z bs = (fr0, 11)) := Lib.hid (by rw [HO3.out, if_pos (.inr hz)])
            have hzz : (zi != z) = true := by simpa using hz
            clear hz
            go_wp2_with (first
              | (with_reducible change wpList _ _ _ (⟨_, Op.load 25 (.tmp 10), _, _, _, _⟩ :: _) _ _; refine wpList_load_mid rfl 25 (.tmp 10) rfl t 0 rfl _ _ HRg.out arrId rfl HSi.out ?_)
              | (with_reducible change wpList _ _ _ (⟨_, Op.load 25 (.tmp 2), _, _, _, _⟩ :: _) _ _; refine wpList_load_blk rfl 25 (.tmp 2) rfl b rfl 25 _ _ HB4.out arrId rfl Hso.out ?_)
              | (with_reducible change wpList _ _ _ (⟨_, Op.binOp .neq 25 _ _ _, _, _, _, _⟩ :: _) _ _; refine wpList_val rfl _ (HN.out _ _ (.tmp 11) (.tmp 12) _ rfl rfl rfl _) ?_))
            exact ⟨rfl, by rw [HE.out]; exact inV_no (by omega) rfl HK4.out HH.out⟩
      · unfold Throw at h2
        subst h2
        have hY0 : Y.1 = fr0 := by rw [← HP.out] at h0 ⊢; exact frPk_err h0
        rw [HO.out h0]
        exact ⟨rfl, inV_no h0 rfl (HK1.out.andThen hk2) HH.out⟩
    · unfold Throw at h2
      subst h2
      have hY2 : Y = (fr0, 4) := by rw [← HY.out]; exact frGt_tag (by rw [Hlen.out, Hm.out]) ht
      rw [HO.out (by rw [hY2]; simp), hY2]
      exact ⟨rfl, inV_no (by omega) rfl hk1 HH.out⟩
end Go.Proofs.YtibcjbelcplpjaaDoor
