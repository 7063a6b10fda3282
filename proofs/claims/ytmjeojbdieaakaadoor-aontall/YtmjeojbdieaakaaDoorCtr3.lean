/-
  Contract of layer 6 (ctr): a text, hidden. No statement of the seed is proved here.
-/
import Derived.Test.YtmjeojbdieaakaaDoorCtr2
import Derived.Test.YtmjeojbdieaakaaDoorAes6
import Derived.Test.YtmjeojbdieaakaaDoorPb
namespace Go.Proofs.YtmjeojbdieaakaaDoor
open Go.RowKit
set_option linter.unusedVariables false

/-- A text that comes in a row of its own. -/
def CtxRet (T : List UInt8) (n : Nat) (w : World) (e : Ending) (w' : World) : Prop := ∃ g, e = .returned (.slice (some ⟨g, 0, none⟩) n n) ∧ Blk w' g 5 (bvs T) ∧ w.heap.size ≤ g ∧ Kept [] w w'

theorem ovr_behind {α : Type} {A B : List α} {n o : Nat} (h : A.length = B.length) (hB : B.length = n) (ho : o ≤ n) : ovr A B (o + min (n - o) 16) = ovr A B (o + 16) := by
  by_cases h16 : 16 ≤ n - o
  · rw [Nat.min_eq_right h16]
  · rw [ovr_all h (by omega), ovr_all h (by omega)]

set_option maxRecDepth 100000 in
set_option maxHeartbeats 4000000 in
theorem hide_any (key fr : List UInt8) (A : Option Addr) (n c : Nat) (bs : List UInt8) (w : World) (hkl : key.length = 32) (hfl : fr.length = 16) (hr : RdB w A n c bs) (hn : n ≤ 100000000000000) :
    Calls Tryd.prog 24 #[.agg (bvs key).toArray, .agg (bvs fr).toArray, .slice A n c] w (CtxRet (hide (aesWords key) fr bs) n w) := by
  obtain ⟨i0, hi0, hz0, hz1, hz2⟩ := info_parts u8info
  have Hkl := Lib.hid hkl
  have Hfl := Lib.hid hfl
  have Hsk := Lib.hid (size_of_len (P := Tryd.prog) (ty := 24) sizeKey hkl)
  have HR := Lib.hid hr
  have hcap := hr.cap
  have hmost := hr.most
  unfold maxLen at hmost
  have Hbl := Lib.hid hr.len
  have Hs16 : Hid (∀ j, (Tryd.prog.info? 58).map (·.size) = some (bvs (cnt fr j)).length) := Lib.hid fun j => size_of_len (P := Tryd.prog) (ty := 58) size16 (cnt_length fr j)
  have HT : Hid ((hide (aesWords key) fr bs).length = n) := Lib.hid (by rw [hide_length, Hbl.out])
  have HV : Hid (∀ j i, 16 * j + i < n → i < 16 → (bvs (hide (aesWords key) fr bs))[16 * j + i]? = some (.int .u8 (bits .xor .u8 (((bs.drop (16 * j)).getD i 0).toNat : Int) (((aesBlock (aesWords key) (cnt fr j)).getD i 0).toNat : Int)))) := Lib.hid fun j i h1 h2 => by
    rw [bvs_at (by rw [HT.out]; exact h1), hide_getD _ _ _ (by rw [Hbl.out]; exact h1), ksAt_in _ _ _ _ h2, getD_drop, bits_xorB]
  generalize hide (aesWords key) fr bs = T at *
  have hA0 := Blk.new w 24 (bvs key)
  have kA : Kept [] w (w.alloc (.cells (bvs key).toArray 24)) := (Kept.refl [] w).alloc _
  have sA : (w.alloc (.cells (bvs key).toArray 24)).heap.size = w.heap.size + 1 := by simp
  obtain ⟨w1, hw1⟩ : ∃ w1, w1 = w.alloc (.cells (bvs key).toArray 24) := ⟨_, rfl⟩
  rw [← hw1] at hA0 kA sA
  have hB0 := Blk.new w1 58 (bvs fr)
  have kB : Kept [] w1 (w1.alloc (.cells (bvs fr).toArray 58)) := (Kept.refl [] w1).alloc _
  obtain ⟨w2, hw2⟩ : ∃ w2, w2 = w1.alloc (.cells (bvs fr).toArray 58) := ⟨_, rfl⟩
  rw [← hw2] at hB0 kB
  have hA := hA0.kept0 kB
  have hB := hB0
  have hK2 := kA.andThen kB
  obtain ⟨a, ha⟩ : ∃ a, a = w.heap.size := ⟨_, rfl⟩
  obtain ⟨f, hf⟩ : ∃ f, f = w1.heap.size := ⟨_, rfl⟩
  have lf : w.heap.size ≤ f := by omega
  rw [← ha] at hA
  rw [← hf] at hB
  have W1 := Lib.hid hw1
  have W2 := Lib.hid hw2
  have A0 := Lib.hid ha
  have F0 := Lib.hid hf
  clear hA0 kA sA hB0 kB hw1 hw2 ha hf hkl hfl hr
  go_enter Tryd.func24, Tryd.ntmps24
  go_wp2_with (first
    | (with_reducible change wpList _ _ _ (⟨_, Op.box _ (Operand.tmp 0), _, _, _, _⟩ :: _) _ _; refine Great.wpList_boxTo rfl 24 _ rfl _ rfl a A0.out.symm (bvs key).toArray rfl ?_; rw [← W1.out])
    | (with_reducible change wpList _ _ _ (⟨_, Op.box _ (Operand.tmp 1), _, _, _, _⟩ :: _) _ _; refine Great.wpList_boxTo rfl 58 _ rfl _ rfl f F0.out.symm (bvs fr).toArray rfl ?_; rw [← W2.out])
    | (with_reducible change wpList _ _ _ (⟨_, Op.load _ _, _, _, _, _⟩ :: _) _ _; refine wpList_load_blk rfl 24 (.tmp 3) rfl a rfl 24 _ _ hA arrKey rfl Hsk.out ?_))
  clear A0 F0
  refine (new_any key _ Hkl.out).mono ?_
  rintro e w3 ⟨p, rfl, hb3, hp3, hk3⟩
  have hB3 := hB.kept0 hk3
  have hK3 := hK2.andThen hk3
  have hfl3 := hB3.lt
  have hpl3 := hb3.lt
  have hfp : f ≠ p := by have := hB.lt; omega
  clear hA hB hK2 hk3 hp3 W1 W2
  generalize aesWords key = K at *
  go_wp2_with (with_reducible change wpList _ _ _ (⟨_, Op.makeSlice _ _ _, _, _, _, _⟩ :: _) _ _; refine wpList_make_bytes rfl _ _ 22 rfl 5 i0 Tryd.underlying22 hi0 hz0 hz1 hz2 _ _ _ _ n rfl rfl rfl rfl (by omega) ?_)
  intro w4 hown4 hk4
  have hG4 := hown4.blk
  have hB4 := hB3.kept0 hk4
  have hb4 := hb3.kept0 hk4
  have hK4 := hK3.andThen hk4
  have hsz := hK3.size
  obtain ⟨g, hg⟩ : ∃ g, g = w3.heap.size := ⟨_, rfl⟩
  rw [← hg] at hG4 ⊢
  have lg : w.heap.size ≤ g := by omega
  have nfg : f ≠ g := by omega
  have npg : p ≠ g := by omega
  have HZ : Hid ((bvs T).length = (bvs (List.replicate n 0)).length) := Lib.hid (by rw [bvs_length, bvs_length, HT.out, List.length_replicate])
  clear hown4 hB3 hb3 hK3 hk4 hfl3 hpl3 hsz hg
  go_wp2
  go_loopw [9] (fun i wr => ∃ j o : Nat, i = .int .i64 (o : Int) ∧ Hid (o = 16 * j) ∧ o < n + 16 ∧ Blk wr g 5 (ovr (bvs T) (bvs (List.replicate n 0)) o) ∧ Blk wr f 58 (bvs (cnt fr j)) ∧ BoxAt wr p K ∧ Kept [] w wr) (fun i _ => n + 16 - (intOf i).toNat)
  case atStart => exact ⟨0, 0, rfl, Lib.hid rfl, by omega, by rw [ovr_zero]; exact hG4, by rw [cnt_zero Hfl.out]; exact hB4, hb4, hK4⟩
  case round =>
    clear hG4 hB4 hb4 hK4
    obtain ⟨j, o, rfl, Ho, hon, hG, hB, hb, hK⟩ := hrel
    by_cases hlt : o < n
    · have hr := HR.out.kept0 hK
      have hOff : Off A [g] := by
        obtain ⟨b, of, rfl, hbl, _⟩ := HR.out.at_ (by omega)
        intro a ha
        injection ha with ha
        subst ha
        simp only [List.mem_singleton]
        omega
      obtain ⟨A2, r2, o2, e2⟩ := hr.cutFrom (P := Tryd.prog) 22 5 Tryd.underlying22 size1u o (o : Int) rfl (by omega)
      have e1 := fun W => run_cut_last (P := Tryd.prog) 22 5 Tryd.underlying22 size1u g n o (o : Int) rfl hlt W
      have HO2 := Lib.hid (o2 _ hOff)
      have HR2 := Lib.hid (fun W (h : Kept [] wr W) => r2.kept0 h)
      have SK := Lib.hid (fun W (h : Kept [] wr W) => (hB.kept0 h).rangeOf)
      have SK2 := Lib.hid (fun W (h : Kept [g] wr W) => (hB.kept h (by simpa using nfg)).rangeOf)
      have HB := Lib.hid (fun W (h : Kept [g] wr W) => And.intro (hB.kept h (by simpa using nfg)) (hb.kept h (by simpa using npg)))
      have HG := Lib.hid (fun W (h : Kept [] wr W) => hG.kept0 h)
      have Hb := Lib.hid (fun W (h : Kept [] wr W) => hb.kept0 h)
      have HK := Lib.hid (fun W (h : Kept [g] wr W) => hK.trans h (by simp; omega))
      have hu := arr16b
      have hsz := Hs16.out j
      have Hcl := Lib.hid (cnt_length fr j)
      clear hr hOff r2 o2 hG hB hb hK
      go_wp2
      go_region_held3 (fun w' => w'.rangeAt f 0 (bvs (cnt fr j)))
        (first
          | exact SK.out _ (Kept.refl [] wr).drew
          | exact SK.out _ hK5
          | exact SK2.out _ hK6)
        (first
          | (go_at_call 48; refine (block5_any p K (cnt fr j) _ (Hb.out _ (Kept.refl [] wr).drew) Hcl.out).mono ?_; rintro e w5 ⟨rfl, hk5⟩; have hK5 := (Kept.refl [] wr).drew.andThen hk5)
          | (go_at_call 47; refine (cmix_any g o (n - o) (bvs T) (bvs (List.replicate n 0)) A2 (c - o) (bs.drop o) (aesBlock K (cnt fr j)) _ (HG.out _ hK5) (by rw [bvs_length, HT.out]; omega) (by rw [bvs_length, List.length_replicate]; omega) (by omega) (HR2.out _ hK5) HO2.out (aesBlock_length _ _) (fun i h1 h2 => by have := HV.out j i (by rw [← Ho.out]; omega) h2; rw [← Ho.out] at this; exact this)).mono ?_; rintro e w6 ⟨rfl, hG6, hk6⟩; have hK6 : Kept [g] wr w6 := (hK5.mono (by simp)).trans hk6 (by simp)))
      have hB6 := (HB.out _ hK6).1
      have hb6 := (HB.out _ hK6).2
      have hKK := HK.out _ hK6
      rw [ovr_behind (A := bvs T) (B := bvs (List.replicate n 0)) HZ.out (by rw [bvs_length, List.length_replicate]) (Nat.le_of_lt hlt)] at hG6
      clear e1 e2 SK SK2 HB HG Hb HK hu hsz HO2 HR2 hk5 hk6 hK5 hK6
      go_wp2_with (with_reducible change wpList _ _ _ (⟨_, Op.load _ _, _, _, _, _⟩ :: _) _ _; refine wpList_load_blk rfl 58 (.tmp 4) rfl f rfl 58 _ _ hB6 arr16b rfl (Hs16.out j) ?_)
      refine (count_any (cnt fr j) 1 _ _ Hcl.out (by omega) rfl).mono ?_
      rw [cnt_add]
      rintro e w7 ⟨rfl, hk7⟩
      have hB7 := hB6.kept0 hk7
      have hb7 := hb6.kept0 hk7
      have hG7 := hG6.kept0 hk7
      have hK7 := hKK.andThen hk7
      clear hB6 hb6 hG6 hKK hk7
      go_wp2_with (with_reducible change wpList _ _ _ (⟨_, Op.store _ _ _, _, _, _, _⟩ :: _) _ _; refine wpList_store_blk rfl 58 (.tmp 4) (.tmp 32) rfl f _ rfl rfl 58 _ hB7 (Hs16.out _) (by rw [bvs_length, bvs_length, cnt_length, cnt_length]) (bvs_one _) ?_)
      intro w8 hB8 hk8 hs8
      have hG8 := hG7.kept hk8 (by simpa using nfg.symm)
      have hb8 := hb7.kept hk8 (by simpa using hfp.symm)
      have hK8 : Kept [] w w8 := hK7.trans hk8 (by simp; omega)
      clear hB7 hb7 hG7 hK7 hk8 hs8
      have Ho' : Hid (o + 16 = 16 * (j + 1)) := Lib.hid (by have := Ho.out; omega)
      go_wp2
      go_roundw
      case rel => exact ⟨j + 1, o + 16, by go_num, Ho', by omega, hG8, hB8, hb8, hK8⟩
      case measure => simp [intOf]; omega
    · rw [ovr_all HZ.out (by rw [bvs_length, List.length_replicate]; omega)] at hG
      clear hB hb
      go_wp2
      go_ret
      exact ⟨g, rfl, hG, lg, hK⟩
end Go.Proofs.YtmjeojbdieaakaaDoor
