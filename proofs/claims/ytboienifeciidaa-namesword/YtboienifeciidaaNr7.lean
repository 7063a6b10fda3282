/-
  Contracts of layer 10, the document's own: the text of a word. No statement of the seed is proved here.
-/
import Derived.Test.YtboienifeciidaaNr6
import Derived.Test.YtboienifeciidaaNm6
namespace Go.Proofs.Ytboienifeciidaa
open Go.RowKit
set_option linter.unusedVariables false

theorem drop_one {l : List UInt8} {k : Nat} {b : UInt8} (h : l[k]? = some b) : l.drop k = b :: l.drop (k + 1) := by
  obtain ⟨hk, hb⟩ := List.getElem?_eq_some_iff.1 h
  rw [List.drop_eq_getElem_cons hk, hb]

theorem rValue_at (b : UInt8) (z v : Int) (hz : Hid ((b.toNat : Int) = z)) (hv : Hid (valZ b = v)) (w : World) : Calls Try.prog 27 #[.int .u8 z] w fun e w' => e = .returned (.int .i64 v) ∧ w = w' := by
  rw [← hz.out, ← hv.out]
  exact rValue_any b w

set_option maxRecDepth 100000 in
set_option maxHeartbeats 8000000 in
theorem rText_any (s : ByteArray) (w : World) (hs : s.size ≤ 1000000) : Calls Try.prog 16 #[.string s] w fun e w' => e = .returned (textV (textL (strL s))) ∧ Kept [] w w' := by
  obtain ⟨i0, hi, hz0, hz1, hz2⟩ := info_parts bextra.infoByte
  obtain ⟨T, hT⟩ : ∃ T, textL (strL s) = T := ⟨_, rfl⟩
  rw [hT]
  have HT := Lib.hid hT
  clear hT
  go_enter Try.func16, Try.ntmps16
  go_wp2
  go_loopw [4, 5] (fun o i wr => ∃ (k : Nat) (A : Option Addr) (n c : Nat) (acc : List UInt8), k ≤ s.size ∧ i = .int .i64 k ∧ o = .slice A n c ∧ OwB 5 wr (.slice A n c) acc ∧ Kept [] w wr ∧ Hid (acc.length ≤ k) ∧ Hid (∀ g, (Value.slice A n c).ownBlock = some g → w.heap.size ≤ g) ∧ Hid (T = (textL ((strL s).drop k)).map (acc ++ ·))) (fun _ i _ => s.size - (intOf i).toNat)
  case atStart => exact ⟨0, none, 0, 0, [], by omega, rfl, rfl, OwB.nil _ _, Kept.refl _ _, Lib.hid (by simp), Lib.hid (by simp [Value.ownBlock]), Lib.hid (by rw [List.drop_zero, HT.out]; simp)⟩
  case round =>
    obtain ⟨k, A, n, c, acc, hks, rfl, rfl, ho, hK, Hal, Hb, Ha⟩ := hrel
    by_cases hp : k < s.size
    · obtain ⟨b, hb⟩ := str_at' s k hp
      obtain ⟨zb, hzb⟩ : ∃ z : Int, (b.toNat : Int) = z := ⟨_, rfl⟩
      have hx : ∀ v, (Instr.index 9 (.string s) (.int .i64 (k : Int))).run Try.prog v = .ok (.int .u8 zb) v := fun v => by rw [← hzb]; exact idx_str hp rfl hb Try.underlying9 v
      have hb8 := UInt8.toNat_lt b
      have h0 : 0 ≤ zb := by omega
      have h256 : zb < 256 := by omega
      have Hd := Lib.hid (drop_one hb)
      have Hzb := Lib.hid hzb
      have hal3 : acc.length ≤ s.size := by have := Hal.out; omega
      have hne : (strL s).drop k ≠ [] := by rw [Hd.out]; simp
      cases hself : selfB b with
      | true =>
        have HZ : Hid (selfZ zb = true) := Lib.hid (by rw [← hzb, selfZ_byte]; exact hself)
        have Ha2 : Hid (T = (textL ((strL s).drop (k + 1))).map ((acc ++ [b]) ++ ·)) := Lib.hid (by
          rw [Ha.out, Hd.out, textL_good (firL_self hself), Option.map_map]
          simp only [List.drop_succ_cons, List.drop_zero]
          congr 1
          funext l
          simp)
        have hr1 := RdB.one wr 5 zb b Hzb.out.symm
        clear hself hb Ha hzb hb8 hne Hd
        go_wp2_with (first | (go_at_call 26; refine (rSelf_any _ _).mono ?_; rw [HZ.out]; rintro e w' ⟨rfl, rfl⟩) | (at_builtin; refine wpList_append_bytes rfl (.tmp 16) (.tmp 20) 35 rfl 5 i0 _ 1 Try.underlying35 hi hz0 hz1 hz2 rfl (.slice A n c) acc rfl (ho.alloc _) _ 1 1 [b] rfl hr1 (by simp only [maxLen]; omega) (by omega) ?_))
        intro v2 w2 ho2 hk2 hm2
        obtain ⟨hK2, hb2⟩ := app_new (hK.alloc _) Hb.out hk2 hm2
        obtain ⟨A2, n2, c2, rfl, _, _⟩ := ho2.form
        have Hb2 := Lib.hid hb2
        clear hk2 hm2 ho hr1 hK hb2
        go_wp2
        go_roundw
        case rel => exact ⟨k + 1, A2, n2, c2, acc ++ [b], by omega, by go_num, rfl, ho2, hK2, Lib.hid (by have := Hal.out; rw [List.length_append, List.length_singleton]; omega), Hb2, Ha2⟩
        case measure => simp [intOf]; omega
      | false =>
        have HZ : Hid (selfZ zb = false) := Lib.hid (by rw [← hzb, selfZ_byte]; exact hself)
        by_cases h3 : s.size < k + 3
        · have HN : Hid (T = none) := Lib.hid (by
            rw [Ha.out, textL_bad hne (by rw [Hd.out]; exact firL_short hself (by rw [List.length_drop, strL_length]; omega))]; rfl)
          have h3z : (s.size : Int) - (k : Int) < 3 := by omega
          have h3d : decide ((s.size : Int) - (k : Int) < 3) = true := decide_eq_true h3z
          clear hself hb hzb hb8 hne Hd Ha ho
          by_cases h37 : zb = 37
          · subst h37
            go_wp2_with (go_at_call 26; refine (rSelf_any _ _).mono ?_; rw [HZ.out]; rintro e w' ⟨rfl, rfl⟩)
            go_ret2
            exact ⟨by rw [HN.out, textV_none]; rfl, hK⟩
          · have hbb : (zb != 37) = true := bne_iff_ne.2 h37
            go_wp2_with (go_at_call 26; refine (rSelf_any _ _).mono ?_; rw [HZ.out]; rintro e w' ⟨rfl, rfl⟩)
            go_ret2
            exact ⟨by rw [HN.out, textV_none]; rfl, hK⟩
        obtain ⟨x, hxg⟩ := str_at' s (k + 1) (by omega)
        obtain ⟨y, hyg⟩ := str_at' s (k + 2) (by omega)
        obtain ⟨zx, hzx⟩ : ∃ z : Int, (x.toNat : Int) = z := ⟨_, rfl⟩
        obtain ⟨zy, hzy⟩ : ∃ z : Int, (y.toNat : Int) = z := ⟨_, rfl⟩
        have hx1 : ∀ v, (Instr.index 9 (.string s) (.int .i64 ((k : Int) + 1))).run Try.prog v = .ok (.int .u8 zx) v := fun v => by rw [← hzx]; exact idx_str (by omega) (by omega) hxg Try.underlying9 v
        have hx2 : ∀ v, (Instr.index 9 (.string s) (.int .i64 ((k : Int) + 2))).run Try.prog v = .ok (.int .u8 zy) v := fun v => by rw [← hzy]; exact idx_str (by omega) (by omega) hyg Try.underlying9 v
        have Hd3 : Hid ((strL s).drop k = b :: x :: y :: (strL s).drop (k + 3)) := Lib.hid (by rw [Hd.out, drop_one hxg, drop_one hyg])
        have hF := firL_three (b := b) (h := x) (w := y) (t := (strL s).drop (k + 3)) hself
        have h3d : decide ((s.size : Int) - (k : Int) < 3) = false := decide_eq_false (by omega)
        by_cases h37 : zb = 37
        · have hb37 : b = 37 := by rw [← UInt8.toNat_inj]; show b.toNat = 37; omega
          subst h37
          obtain ⟨vx, hvx⟩ : ∃ v, valZ x = v := ⟨_, rfl⟩
          obtain ⟨vy, hvy⟩ : ∃ v, valZ y = v := ⟨_, rfl⟩
          have bx : 0 ≤ vx → vx < 16 := fun h => by rw [← hvx] at h ⊢; exact (valZ_back h).2
          have by_ : 0 ≤ vy → vy < 16 := fun h => by rw [← hvy] at h ⊢; exact (valZ_back h).2
          rw [hvx, hvy] at hF
          have HX := Lib.hid hvx
          have HY := Lib.hid hvy
          have HZX := Lib.hid hzx
          have HZY := Lib.hid hzy
          have HF := Lib.hid hF
          have Hne := Lib.hid hne
          have H37 := Lib.hid hb37
          clear hself hb hzb hb8 Hd hF hxg hyg hvx hvy hzx hzy hne hb37
          by_cases hx0 : 0 ≤ vx
          · by_cases hy0 : 0 ≤ vy
            · have bx := bx hx0
              have by_ := by_ hy0
              have hzv : (UInt8.ofNat (16 * vx + vy).toNat).toNat = (16 * vx + vy).toNat := by rw [UInt8.toNat_ofNat']; exact Nat.mod_eq_of_lt (by omega)
              obtain ⟨r, hr⟩ : ∃ r, UInt8.ofNat (16 * vx + vy).toNat = r := ⟨_, rfl⟩
              have HF2 := HF.out
              rw [hr] at hzv HF2
              have HF2 := Lib.hid HF2
              obtain ⟨zr, hzr⟩ : ∃ z : Int, 16 * vx + vy = z := ⟨_, rfl⟩
              have Hzr : Hid (zr = (r.toNat : Int)) := Lib.hid (by omega)
              have hzm : zr % 256 = zr := by omega
              have hwr := wrap8 (z := zr) (by omega) (by omega)
              cases hsr : selfB r with
              | true =>
                have HS : Hid (selfZ zr = true) := Lib.hid (by rw [Hzr.out, selfZ_byte, hsr])
                have HN : Hid (T = none) := Lib.hid (by
                  rw [Ha.out, textL_bad Hne.out (by rw [Hd3.out, HF2.out, if_neg (fun g => by rw [hsr] at g; exact absurd g.2.2.2 (by simp))])]; rfl)
                clear Ha Hd3 HF HF2 hsr hr hzv ho
                go_wp2_with (first | (go_at_call 26; with_reducible change Calls _ _ #[.int .u8 37] _ _; refine (rSelf_any _ _).mono ?_; rw [HZ.out]; rintro e w' ⟨rfl, rfl⟩) | (go_at_call 26; with_reducible change Calls _ _ #[.int .u8 zr] _ _; refine (rSelf_any _ _).mono ?_; rw [HS.out]; rintro e w' ⟨rfl, rfl⟩) | (go_at_call 27; with_reducible change Calls _ _ #[.int .u8 zx] _ _; refine (rValue_at x zx vx HZX HX _).mono ?_; rintro e w' ⟨rfl, rfl⟩) | (go_at_call 27; with_reducible change Calls _ _ #[.int .u8 zy] _ _; refine (rValue_at y zy vy HZY HY _).mono ?_; rintro e w' ⟨rfl, rfl⟩))
                go_ret2
                exact ⟨by rw [HN.out, textV_none]; rfl, hK⟩
              | false =>
                have HS : Hid (selfZ zr = false) := Lib.hid (by rw [Hzr.out, selfZ_byte, hsr])
                have Ha2 : Hid (T = (textL ((strL s).drop (k + 3))).map ((acc ++ [r]) ++ ·)) := Lib.hid (by
                  rw [Ha.out, Hd3.out, textL_good (k := 3) (x := r) (by rw [HF2.out, if_pos ⟨H37.out, hx0, hy0, hsr⟩]), Option.map_map]
                  simp only [List.drop_succ_cons, List.drop_zero]
                  congr 1
                  funext l
                  simp)
                have hr1 := RdB.one wr 5 zr r Hzr.out
                clear Ha Hd3 HF HF2 hsr hr hzv
                go_wp2_with (first | (go_at_call 26; with_reducible change Calls _ _ #[.int .u8 37] _ _; refine (rSelf_any _ _).mono ?_; rw [HZ.out]; rintro e w' ⟨rfl, rfl⟩) | (go_at_call 26; with_reducible change Calls _ _ #[.int .u8 zr] _ _; refine (rSelf_any _ _).mono ?_; rw [HS.out]; rintro e w' ⟨rfl, rfl⟩) | (go_at_call 27; with_reducible change Calls _ _ #[.int .u8 zx] _ _; refine (rValue_at x zx vx HZX HX _).mono ?_; rintro e w' ⟨rfl, rfl⟩) | (go_at_call 27; with_reducible change Calls _ _ #[.int .u8 zy] _ _; refine (rValue_at y zy vy HZY HY _).mono ?_; rintro e w' ⟨rfl, rfl⟩) | (at_builtin; refine wpList_append_bytes rfl (.tmp 59) (.tmp 65) 35 rfl 5 i0 _ 1 Try.underlying35 hi hz0 hz1 hz2 rfl (.slice A n c) acc rfl (ho.alloc _) _ 1 1 [r] rfl hr1 (by simp only [maxLen]; omega) (by omega) ?_))
                intro v2 w2 ho2 hk2 hm2
                obtain ⟨hK2, hb2⟩ := app_new (hK.alloc _) Hb.out hk2 hm2
                obtain ⟨A2, n2, c2, rfl, _, _⟩ := ho2.form
                have Hb2 := Lib.hid hb2
                clear hk2 hm2 ho hr1 hK hb2
                go_wp2
                go_roundw
                case rel => exact ⟨k + 3, A2, n2, c2, acc ++ [r], by omega, by go_num, rfl, ho2, hK2, Lib.hid (by have := Hal.out; rw [List.length_append, List.length_singleton]; omega), Hb2, Ha2⟩
                case measure => simp [intOf]; omega
            · have hy1 : vy < 0 := by omega
              have HN : Hid (T = none) := Lib.hid (by rw [Ha.out, textL_bad Hne.out (by rw [Hd3.out, HF.out, if_neg (by omega)])]; rfl)
              clear Ha Hd3 HF ho bx by_
              go_wp2_with (first | (go_at_call 26; with_reducible change Calls _ _ #[.int .u8 37] _ _; refine (rSelf_any _ _).mono ?_; rw [HZ.out]; rintro e w' ⟨rfl, rfl⟩) | (go_at_call 27; with_reducible change Calls _ _ #[.int .u8 zx] _ _; refine (rValue_at x zx vx HZX HX _).mono ?_; rintro e w' ⟨rfl, rfl⟩) | (go_at_call 27; with_reducible change Calls _ _ #[.int .u8 zy] _ _; refine (rValue_at y zy vy HZY HY _).mono ?_; rintro e w' ⟨rfl, rfl⟩))
              go_ret2
              exact ⟨by rw [HN.out, textV_none]; rfl, hK⟩
          · have hx1' : vx < 0 := by omega
            have HN : Hid (T = none) := Lib.hid (by rw [Ha.out, textL_bad Hne.out (by rw [Hd3.out, HF.out, if_neg (by omega)])]; rfl)
            clear Ha Hd3 HF ho bx by_
            go_wp2_with (first | (go_at_call 26; with_reducible change Calls _ _ #[.int .u8 37] _ _; refine (rSelf_any _ _).mono ?_; rw [HZ.out]; rintro e w' ⟨rfl, rfl⟩) | (go_at_call 27; with_reducible change Calls _ _ #[.int .u8 zx] _ _; refine (rValue_at x zx vx HZX HX _).mono ?_; rintro e w' ⟨rfl, rfl⟩) | (go_at_call 27; with_reducible change Calls _ _ #[.int .u8 zy] _ _; refine (rValue_at y zy vy HZY HY _).mono ?_; rintro e w' ⟨rfl, rfl⟩))
            go_ret2
            exact ⟨by rw [HN.out, textV_none]; rfl, hK⟩
        · have hbb : (zb != 37) = true := bne_iff_ne.2 h37
          have HN : Hid (T = none) := Lib.hid (by
            rw [Ha.out, textL_bad hne (by rw [Hd3.out, hF, if_neg (fun g => h37 (by rw [← hzb, g.1]; rfl))])]; rfl)
          clear hself hb hzb hb8 Hd hF hxg hyg hzx hzy hne Ha Hd3 ho
          go_wp2_with (go_at_call 26; refine (rSelf_any _ _).mono ?_; rw [HZ.out]; rintro e w' ⟨rfl, rfl⟩)
          go_ret2
          exact ⟨by rw [HN.out, textV_none]; rfl, hK⟩
    · have Hf : Hid (T = some acc) := Lib.hid (by rw [Ha.out, drop_end s k hp, textL_nil]; simp)
      obtain ⟨A2, n2, c2, he, hrd, _⟩ := ho.form
      cases he
      have hcv := run_str_rdb (P := Try.prog) 35 9 5 hrd Try.underlying35 Try.underlying5 Try.underlying9
      clear Ha hrd ho
      go_wp2
      go_ret2
      exact ⟨by rw [Hf.out, textV_some]; rfl, hK⟩
end Go.Proofs.Ytboienifeciidaa
