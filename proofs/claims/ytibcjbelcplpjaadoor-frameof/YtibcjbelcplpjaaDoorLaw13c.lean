/-
  Contract of layer 13, the law's own: a frame of its own. No statement of the seed is proved here.
-/
import Derived.Test.YtibcjbelcplpjaaDoorPd
import Derived.Test.YtibcjbelcplpjaaDoorPe
namespace Go.Proofs.YtibcjbelcplpjaaDoor
open Go.RowKit
set_option linter.unusedVariables false

/-- A frame told anew. -/
def CpRet (f : Fr) (n : Nat) (w : World) (e : Ending) (w' : World) : Prop :=
  ∃ A c, e = .returned (.agg (frc f A n c).toArray) ∧ FrAt w' f A n c ∧ Kept [] w w' ∧ ∀ q, (Value.slice A n c).ownBlock = some q → w.heap.size ≤ q
theorem frc_again {f : Fr} {A B : Option Addr} {n c m d : Nat} (h : f.obj.length = 16) : (frc f A n c).set 20 (.slice B m d) = frc f B m d := by rw [frc_set_piece h B m d f.piece]

set_option maxRecDepth 100000 in
set_option maxHeartbeats 4000000 in
theorem cpd_any (f : Fr) (A : Option Addr) (n c : Nat) (w : World) (h : FrAt w f A n c) (hn : n ≤ 100000) : Calls Tryd.prog 8 #[.agg (frc f A n c).toArray] w (CpRet f n w) := by
  obtain ⟨i0, hi, hz0, hz1, hz2⟩ := info_parts u8info
  obtain ⟨w1, hw1⟩ : ∃ w1, w1 = w.alloc (.cells (frc f A n c).toArray 28) := ⟨_, rfl⟩
  obtain ⟨g, hg⟩ : ∃ g, g = w.heap.size := ⟨_, rfl⟩
  have hG : FrB w1 g f A n c := by rw [hw1, hg]; exact FrB.new w f A n c h.obj
  have hk1 : Kept [] w w1 := by rw [hw1]; exact (Kept.refl [] w).alloc _
  have HG := Lib.hid hG
  have HK1 := Lib.hid hk1
  have HFA := Lib.hid h
  have HR := Lib.hid (h.piece.kept0 hk1)
  have Hgw : Hid (w.heap.size ≤ g) := Lib.hid (by omega)
  have W1 := Lib.hid hw1
  have G0 := Lib.hid hg
  have hz0' := zeroFr
  have Hsz : Hid (∀ B m d, (Tryd.prog.info? 28).map (·.size) = some (frc f B m d).length) := Lib.hid (fun B m d => frc_size h.obj)
  have Hon : Hid (∀ B m d, ∀ v ∈ frc f B m d, v.oneCell' = true) := Lib.hid (fun B m d => frc_one f B m d)
  have Hzl : Hid (∀ B m d, (frc fr0 none 0 0).length = (frc f B m d).length) := Lib.hid (fun B m d => by rw [frc_length (f := fr0) (by unfold fr0; simp), frc_length h.obj])
  obtain ⟨L, hL⟩ : ∃ L, frc f A n c = L := ⟨_, rfl⟩
  rw [hL] at W1 ⊢
  clear hw1 hg hG hk1 h hL
  go_enter Tryd.func8, Tryd.ntmps8
  go_wp2_with (first
    | (with_reducible change wpList _ _ _ (⟨_, Op.box _ _, _, _, _, _⟩ :: _) _ _; refine Great.wpList_boxTo rfl 28 _ rfl _ rfl g G0.out.symm L.toArray rfl ?_; rw [← W1.out])
    | (with_reducible change wpList _ _ _ (⟨_, Op.alloc _, _, _, _, _⟩ :: _) _ _; refine wpList_alloc_blk rfl 28 rfl _ hz0' ?_))
  intro w2 hR2 hk2 hs2
  obtain ⟨r, hr⟩ : ∃ r, r = w1.heap.size := ⟨_, rfl⟩
  rw [← hr] at hR2 ⊢
  have Hr : Hid (w.heap.size ≤ r ∧ g < r) := Lib.hid (by have h1 := HK1.out.size; have h2 := HG.out.blk.lt; omega)
  have HG2 := Lib.hid (HG.out.kept0 hk2)
  have HR2 := Lib.hid hR2
  have HK2 := Lib.hid (HK1.out.andThen hk2)
  have HA2 : Hid (Kept [] w2 (w2.alloc (.cells #[] 5))) := Lib.hid ((Kept.refl [] w2).alloc _)
  have d5 := (HG2.out.kept0 HA2.out).piece
  have HO : Hid (OwB 5 (w2.alloc (.cells #[] 5)) (.slice (some ⟨w2.heap.size, 0, none⟩) 0 0) []) := Lib.hid (by
    have := World.ownsRow_lit (base := 0) (e := 5) (size := 1) w2 #[] 0 (Nat.zero_le _) (by simp [maxLen]) rfl
    simpa [OwB, bvs] using this)
  clear hr hR2 hk2 hs2 hz0'
  go_wp2_with (at_builtin; refine wpList_append_bytes rfl (.tmp 3) (.tmp 5) 26 rfl 5 i0 _ 1 Tryd.underlying26 hi hz0 hz1 hz2 rfl (.slice (some ⟨w2.heap.size, 0, none⟩) 0 0) [] rfl HO.out A n c f.piece rfl (HFA.out.piece.kept0 (HK2.out.andThen HA2.out)) (by simp only [List.length_nil, maxLen]; omega) (by simp only [List.length_nil]; omega) ?_)
  intro v3 w3 ho3 hk3 hm3
  obtain ⟨hK3, hb3⟩ := app_new HA2.out (by intro q hq; simp [Value.ownBlock] at hq; omega) hk3 hm3
  obtain ⟨A3, n3, c3, rfl, hr3, hlt3⟩ := ho3.form
  have hr3' : RdB w3 A3 n3 c3 f.piece := by simpa using hr3
  obtain rfl : n = n3 := by rw [← hr3'.len, HFA.out.piece.len]
  have HG3 := Lib.hid (HG2.out.kept0 hK3)
  have HR3 := Lib.hid (HR2.out.kept0 hK3)
  have HK3 := Lib.hid (HK2.out.andThen hK3)
  have HP3 := Lib.hid hr3'
  have HB3 : Hid (∀ q, (Value.slice A3 n c3).ownBlock = some q → w.heap.size ≤ q ∧ g < q ∧ r < q) := Lib.hid (fun q hq => by have h1 := hb3 q hq; have h2 := HK2.out.size; have h3 := HG2.out.blk.lt; have h4 := HR2.out.lt; omega)
  have c20 := HG3.out.piece
  have f20 : w3.frozen? ⟨g, 20, none⟩ = false := HG3.out.blk.frz 20
  have hG4 := HG3.out.blk.set 20 (.slice A3 n c3)
  rw [frc_again HFA.out.obj] at hG4
  have HG4 := Lib.hid hG4
  have hkg : Kept [g] w3 (w3.setCell ⟨g, 20, none⟩ (.slice A3 n c3)) := (Kept.refl [g] w3).setCell (.inl (by simp)) _
  have HR4 : Hid (Blk (w3.setCell ⟨g, 20, none⟩ (.slice A3 n c3)) r 28 (frc fr0 none 0 0)) := Lib.hid (HR3.out.set_other 20 _ (by have := Hr.out.2; omega))
  have HK4 : Hid (Kept [] w (w3.setCell ⟨g, 20, none⟩ (.slice A3 n c3))) := Lib.hid (HK3.out.trans hkg (fun i hi => .inr (by have := List.mem_singleton.1 hi; have := Hgw.out; omega)))
  have HP4 := Lib.hid (HP3.out.kept hkg (off_ownB (fun q hq hm => by have h1 := List.mem_singleton.1 hm; have h2 := HB3.out q hq; omega)))
  obtain ⟨L2, hL2⟩ : ∃ L2, frc f A3 n c3 = L2 := ⟨_, rfl⟩
  have Hs2 := Lib.hid (Hsz.out A3 n c3)
  have Ho2 := Lib.hid (Hon.out A3 n c3)
  have Hl2 := Lib.hid (Hzl.out A3 n c3)
  rw [hL2] at HG4 Hs2 Ho2 Hl2
  have HL2 := Lib.hid hL2
  clear ho3 hk3 hm3 hK3 hb3 hr3 hr3' hG4 hkg hL2 HG2 HR2 HA2 HO HP3 HK3 HG3 HR3 hlt3 d5
  go_wp2_with (first
    | (with_reducible change wpList _ _ _ (⟨_, Op.load 28 _, _, _, _, _⟩ :: _) _ _; refine wpList_load_blk rfl 28 (.tmp 1) rfl g rfl 28 L2 _ HG4.out Tryd.underlying28 rfl Hs2.out ?_)
    | (with_reducible change wpList _ _ _ (⟨_, Op.store 28 _ _, _, _, _, _⟩ :: _) _ _; refine wpList_store_blk rfl 28 (.tmp 2) (.tmp 8) rfl r L2 rfl rfl 28 _ HR4.out Hs2.out Hl2.out Ho2.out ?_))
  intro wz hRz hkz hsz
  go_wp2
  refine bodyPost_ret (results_blk rfl _ r 28 _ _ rfl hRz Tryd.underlying28 rfl Hs2.out) rfl ?_
  have hKz : Kept [] w wz := HK4.out.trans hkz (fun i hi => .inr (by have := List.mem_singleton.1 hi; have := Hr.out; omega))
  refine ⟨A3, c3, by rw [HL2.out], ?_, hKz, fun q hq => (HB3.out q hq).1⟩
  exact ⟨HFA.out.obj, HFA.out.idx, HFA.out.cnt, HFA.out.kk, HFA.out.cls, HP4.out.kept hkz (off_ownB (fun q hq hm => by have h1 := List.mem_singleton.1 hm; have h2 := HB3.out q hq; omega))⟩
end Go.Proofs.YtibcjbelcplpjaaDoor
