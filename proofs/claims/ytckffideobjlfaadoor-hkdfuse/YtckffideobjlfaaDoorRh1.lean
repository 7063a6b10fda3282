/-
  Contracts of the document's own answers for layer 3: a digest's bytes, the tag. No statement of the seed is proved here.
-/
import Derived.Test.YtckffideobjlfaaDoorRf6
import Derived.Test.YtckffideobjlfaaDoorHm3
namespace Go.Proofs.YtckffideobjlfaaDoor
open Go.RowKit
set_option linter.unusedVariables false

def slenH : Value → Nat
  | .slice _ n _ => n
  | _ => 0

set_option maxRecDepth 100000 in
set_option maxHeartbeats 1000000 in
theorem rBytes_any (bs : List UInt8) (w : World) (hl : bs.length = 32) :
    Calls Tryd.prog 18 #[.agg (bvs bs).toArray] w (CloneRet bs w) := by
  obtain ⟨i0, hi, hz0, hz1, hz2⟩ := info_parts u8info
  have hB := Blk.new w 25 (bvs bs)
  have hK1 : Kept [] w (w.alloc (.cells (bvs bs).toArray 25)) := (Kept.refl [] w).alloc _
  have hs1 : (w.alloc (.cells (bvs bs).toArray 25)).heap.size = w.heap.size + 1 := by simp
  have Hl := Lib.hid hl
  go_enter Tryd.func18, Tryd.ntmps18
  go_wp2_with (first
    | (with_reducible change wpList _ _ _ (⟨_, Op.box _ _, _, _, _, _⟩ :: _) _ _; refine Great.wpList_boxTo rfl 25 _ rfl _ rfl w.heap.size rfl (bvs bs).toArray rfl ?_; generalize w.alloc (.cells (bvs bs).toArray 25) = w1 at *)
    | (with_reducible change wpList _ _ _ (⟨_, Op.makeSlice _ _ _, _, _, _, _⟩ :: _) _ _; refine wpList_make_bytes rfl _ _ 22 rfl 5 i0 Tryd.underlying22 hi hz0 hz1 hz2 _ _ _ _ 32 rfl rfl rfl rfl (by omega) ?_))
  intro w2 hown2 hk2
  have hB2 := hB.kept0 hk2
  have hK2 := hK1.andThen hk2
  obtain ⟨g, hg⟩ : ∃ g, g = w.heap.size := ⟨_, rfl⟩
  obtain ⟨r, hr⟩ : ∃ r, r = w.heap.size + 1 := ⟨_, rfl⟩
  rw [← hr] at hown2 ⊢
  rw [← hg] at hB2 ⊢
  have hrg : g ≠ r := by omega
  have hrw : w.heap.size ≤ r := by omega
  clear hB hK1 hs1 hk2 hl hg hr
  go_wp2
  go_loopw [4] (fun i wr => ∃ k : Nat, k ≤ 32 ∧ i = .int .i64 k ∧ Blk wr g 25 (bvs bs) ∧ OwB 5 wr (.slice (some ⟨r, 0, none⟩) 32 32) (bs.take k ++ List.replicate (32 - k) 0) ∧ Kept [] w wr) (fun i _ => 32 - (intOf i).toNat)
  case atStart => exact ⟨0, by omega, rfl, hB2, by simpa using hown2, hK2⟩
  case round =>
    obtain ⟨k, hk, rfl, hB3, ho, hK⟩ := hrel
    clear hB2 hown2 hK2
    by_cases hlt : k < 32
    · have hkl : (bs.take k).length = k := by rw [List.length_take]; have := Hl.out; omega
      obtain ⟨y, hy⟩ : ∃ y, bs[k]? = some y := ⟨bs[k]'(by have := Hl.out; omega), List.getElem?_eq_getElem _⟩
      have c1 : wr.cell? ⟨g, k, none⟩ = some (.int .u8 (y.toNat : Int)) := by rw [hB3.cell, bvs, List.getElem?_map, hy]; rfl
      have hnew := ho.set k y
      have hse := set_mid (bs.take k) (32 - k) y (by omega)
      rw [hkl] at hse
      rw [hse, ← take_step bs k y hy, Nat.sub_sub] at hnew
      have hfz := ho.fz k
      obtain ⟨b3, off3, y3, e3, c3, _, _⟩ := ho.rd.byte (k := k) (by omega)
      simp only [Option.some.injEq, Addr.mk.injEq] at e3
      obtain ⟨rfl, rfl, _⟩ := e3
      rw [Nat.zero_add] at c3
      have hBn : Blk (wr.setCell ⟨r, k, none⟩ (.int .u8 (y.toNat : Int))) g 25 (bvs bs) := hB3.set_other k _ hrg
      have hkn : Kept [] w (wr.setCell ⟨r, k, none⟩ (.int .u8 (y.toNat : Int))) := hK.setCell (by right; exact hrw) _
      unfold bcell at hnew
      clear hse hkl hy hB3 ho hK
      go_wp2
      go_roundw
      case rel => exact ⟨k + 1, by omega, by go_num, hBn, hnew, hkn⟩
      case measure => simp [intOf]; omega
    · obtain rfl : k = 32 := by omega
      rw [List.take_of_length_le (by have := Hl.out; omega)] at ho
      go_wp2
      go_ret
      exact ⟨_, rfl, by simpa using ho, hK, by intro q hq; simp [Value.ownBlock] at hq; omega⟩

/-- Two rows of the call's own. -/
theorem apart_step {W : World} {u u' v : Value} (hm : Moved W u u') (hv : ∀ g, v.ownBlock = some g → g < W.heap.size) (ha : ∀ g, u.ownBlock = some g → v.ownBlock ≠ some g) : ∀ g, u'.ownBlock = some g → v.ownBlock ≠ some g := by
  intro g hg e
  rcases hm g hg with h | h
  · exact ha g h e
  · have := hv g e; omega
theorem hx_step (x : UInt8) (l : List UInt8) (k : Nat) (y : UInt8) (h : l[k]? = some y) : hx x (l.take (k + 1)) = hx x (l.take k) ++ [y ^^^ x] := by
  rw [hx_eq, hx_eq, take_step l k y h, List.map_append]; rfl
theorem bits54 (y : UInt8) : bits .xor .u8 (y.toNat : Int) 54 = ((y ^^^ 54).toNat : Int) := bits_xorB y 54
theorem bits92 (y : UInt8) : bits .xor .u8 (y.toNat : Int) 92 = ((y ^^^ 92).toNat : Int) := bits_xorB y 92
theorem pad_more (k0 : List UInt8) (j : Nat) (h : k0.length + j = 64) : k0 ++ List.replicate j 0 = hpad k0 := by
  unfold hpad; congr 2; omega

set_option maxRecDepth 100000 in
set_option maxHeartbeats 4000000 in
theorem rTag_any (A A' : Option Addr) (n c n' c' : Nat) (key text : List UInt8) (w : World) (hr : RdB w A n c key) (hp : RdB w A' n' c' text) (hn : n ≤ 100000) (hn' : n' ≤ 100000) :
    Calls Tryd.prog 15 #[.slice A n c, .slice A' n' c'] w (KeyRet (hTag key text) w) := by
  obtain ⟨i0, hi, hz0, hz1, hz2⟩ := info_parts u8info
  have hlk := hr.len
  have hlt0 := hp.len
  have Hlt := Lib.hid hlt0
  clear hlt0
  by_cases hbig : 64 < n
  · go_enter Tryd.func15, Tryd.ntmps15
    go_wp2_with (with_reducible change wpList _ _ _ (⟨_, Op.alloc _, _, _, _, _⟩ :: _) _ _; refine wpList_alloc_blk rfl 25 rfl _ zero32 ?_)
    intro w1 hR1 hk1 hs1
    obtain ⟨g4, hg4⟩ : ∃ g4, g4 = w.heap.size := ⟨_, rfl⟩
    rw [← hg4] at hR1 ⊢
    have hw4 : w.heap.size ≤ g4 := by omega
    clear hs1 hg4
    have hr1 := hr.kept0 hk1
    have hp1 := hp.kept0 hk1
    obtain ⟨k0, hk0⟩ : ∃ k0, k0 = shaSum key := ⟨_, rfl⟩
    have hd : k0.length = 32 := by rw [hk0]; exact shaSum_length key
    have HK0 : Hid (k0.length ≤ 64) := Lib.hid (by omega)
    have HP : Hid (hpad k0 = hkey key) := Lib.hid (by rw [hk0]; exact (hkey_long (by omega)).symm)
    have HE := Lib.hid hk0
    clear hk0
    go_wp2_with fail
    refine (rSum_any A n c key _ hr1 (by omega)).mono ?_
    rw [← HE.out]
    rintro e w2 ⟨rfl, hk2⟩
    go_wp2_with fail
    refine (rBytes_any k0 _ hd).mono ?_
    rintro e w2b ⟨v2, rfl, ho2, hk2b, hf2⟩
    obtain ⟨A2, n2, c2, rfl, hr2, _⟩ := ho2.form
    have hn2 : n2 = 32 := by have := hr2.len; omega
    subst hn2
    have hK2 := hk2.andThen hk2b
    clear hk2 hk2b hf2 ho2 hr hp hr1
    go_wp2_with (at_builtin; refine wpList_append_bytes rfl (.tmp 12) (.tmp 15) 22 rfl 5 i0 _ 1 Tryd.underlying22 hi hz0 hz1 hz2 rfl (.slice none 0 0) [] rfl (OwB.nil _ _) A2 32 c2 k0 rfl hr2 (by simp [maxLen]) (by simp) ?_)
    intro v3 w3 ho3 hk3 hm3
    obtain ⟨hK3, hb3⟩ := app_new hK2 (by simp [Value.ownBlock]) hk3 hm3
    obtain ⟨A3, n3, c3, rfl, hr3, _⟩ := ho3.form
    clear hr3 hK2 hk3 hm3 hr2 HE hd
    go_wp2
    go_loopw [5] (fun v wr => ∃ (j : Nat) (A4 : Option Addr) (n4 c4 : Nat), v = .slice A4 n4 c4 ∧ OwB 5 wr (.slice A4 n4 c4) (k0 ++ List.replicate j 0) ∧ n4 ≤ 64 ∧ Hid (k0.length + j = n4) ∧ Kept [] w1 wr ∧ Hid (∀ g, (Value.slice A4 n4 c4).ownBlock = some g → w1.heap.size ≤ g)) (fun v _ => 64 - slenH v)
    case atStart => exact ⟨0, A3, n3, c3, rfl, by simpa using ho3, by have := ho3.rd.len; have := HK0.out; omega, Lib.hid (by have := ho3.rd.len; omega), hK3, Lib.hid hb3⟩
    case round =>
      obtain ⟨j, A4, n4, c4, rfl, ho4, hn4, Hj, hK4, Hb4⟩ := hrel
      clear ho3 hb3 hK3
      by_cases hlt : n4 < 64
      · have hL4 : Hid ((k0 ++ List.replicate j 0).length = n4) := Lib.hid (by rw [List.length_append, List.length_replicate]; exact Hj.out)
        have hA : Kept [] w1 (wr.alloc (.cells #[.int .u8 0] 5)) := hK4.alloc _
        have HA := Lib.hid hA
        clear hA
        go_wp2_with (at_builtin; refine wpList_append_bytes rfl (.tmp 23) (.tmp 24) 22 rfl 5 i0 _ 1 Tryd.underlying22 hi hz0 hz1 hz2 rfl (.slice A4 n4 c4) _ rfl (ho4.alloc _) _ 1 1 [0] rfl (RdB.one wr 5 0 0 rfl) (by rw [hL4.out]; simp only [maxLen]; omega) (by rw [hL4.out]; omega) ?_)
        intro v6 w6 ho6 hk6 hm6
        obtain ⟨hK6, hb6⟩ := app_new HA.out Hb4.out hk6 hm6
        obtain ⟨A6, n6, c6, rfl, hr6, _⟩ := ho6.form
        have hl6 : n6 = n4 + 1 := by have h1 := hr6.len; have h2 := hL4.out; simp only [List.length_append, List.length_replicate, List.length_singleton] at h1 h2; omega
        subst hl6
        have ho7 : OwB 5 w6 (.slice A6 (n4 + 1) c6) (k0 ++ List.replicate (j + 1) 0) := by
          rw [List.replicate_succ']; simpa only [List.append_assoc] using ho6
        have Hb6 := Lib.hid hb6
        have HO := Lib.hid ho7
        clear hr6 hb6 hk6 hm6 ho4 hK4 HA ho6 ho7
        go_wp2
        go_roundw
        case rel => exact ⟨j + 1, A6, n4 + 1, c6, rfl, HO.out, by omega, Lib.hid (by have := Hj.out; omega), hK6, Hb6⟩
        case measure => simp [slenH]; omega
      · obtain rfl : n4 = 64 := by omega
        rw [pad_more k0 j Hj.out, HP.out] at ho4
        obtain ⟨w4, rfl⟩ : ∃ w4, w4 = wr := ⟨_, rfl⟩
        have hr4 := ho4.rd
        have hl4 := hkey_length key
        have Hl4 := Lib.hid hl4
        clear hl4 ho4 Hj HP HK0 hlt hn4 Hb4
        go_wp2
        go_loopw [6, 7, 8] (fun u v i wr => ∃ (k : Nat) (A6 : Option Addr) (n6 c6 : Nat) (A7 : Option Addr) (n7 c7 : Nat), k ≤ 64 ∧ i = .int .i64 k ∧ u = .slice A6 n6 c6 ∧ v = .slice A7 n7 c7 ∧ OwB 5 wr (.slice A6 n6 c6) (hx 54 ((hkey key).take k)) ∧ OwB 5 wr (.slice A7 n7 c7) (hx 92 ((hkey key).take k)) ∧ Kept [] w4 wr ∧ Hid (∀ g, (Value.slice A6 n6 c6).ownBlock = some g → w4.heap.size ≤ g) ∧ Hid (∀ g, (Value.slice A7 n7 c7).ownBlock = some g → w4.heap.size ≤ g) ∧ Hid (∀ g, (Value.slice A6 n6 c6).ownBlock = some g → (Value.slice A7 n7 c7).ownBlock ≠ some g)) (fun _ _ i _ => 64 - (intOf i).toNat)
        case atStart => exact ⟨0, none, 0, 0, none, 0, 0, by omega, rfl, rfl, rfl, by rw [List.take_zero, hx_eq]; exact OwB.nil _ _, by rw [List.take_zero, hx_eq]; exact OwB.nil _ _, Kept.refl _ _, Lib.hid (by simp [Value.ownBlock]), Lib.hid (by simp [Value.ownBlock]), Lib.hid (by simp [Value.ownBlock])⟩
        case round =>
          obtain ⟨k, A6, n6, c6, A7, n7, c7, hk, rfl, rfl, rfl, ho6, ho7, hK6, Hf6, Hf7, Hap⟩ := hrel
          by_cases hlt : k < 64
          · obtain ⟨b, off, y, rfl, c0, hy, _⟩ := hr4.byte hlt
            obtain ⟨b2, off2, e2, hb2, _⟩ := hr4.at_ (by omega)
            have hbw : b < w4.heap.size := by cases e2; exact hb2
            have c1 := (hK6.cell (p := ⟨b, off + k, none⟩) hbw (by simp)).trans c0
            have hln : ((hkey key).take k).length = k := by rw [List.length_take]; have := Hl4.out; omega
            have L6 : Hid ((hx 54 ((hkey key).take k)).length = k) := Lib.hid (by rw [hx_length]; exact hln)
            have L7 : Hid ((hx 92 ((hkey key).take k)).length = k) := Lib.hid (by rw [hx_length]; exact hln)
            have HS6 := Lib.hid (hx_step 54 (hkey key) k y hy)
            have HS7 := Lib.hid (hx_step 92 (hkey key) k y hy)
            have hA : Kept [] w4 (wr.alloc (.cells #[.int .u8 (bits .xor .u8 (y.toNat : Int) 54)] 5)) := hK6.alloc _
            have HA := Lib.hid hA
            clear hln hy e2 hb2 hA
            go_wp2_with (at_builtin; refine wpList_append_bytes rfl (.tmp 30) (.tmp 36) 22 rfl 5 i0 _ 1 Tryd.underlying22 hi hz0 hz1 hz2 rfl (.slice A6 n6 c6) _ rfl (ho6.alloc _) _ 1 1 [y ^^^ 54] rfl (RdB.one wr 5 _ _ (bits54 y)) (by rw [L6.out]; simp only [maxLen]; omega) (by rw [L6.out]; omega) ?_)
            intro v8 w8 ho8 hk8 hm8
            rw [← HS6.out] at ho8
            obtain ⟨hK8, hf8⟩ := app_new HA.out Hf6.out hk8 hm8
            have ho78 := (ho7.alloc (.cells #[.int .u8 (bits .xor .u8 (y.toNat : Int) 54)] 5)).kept hk8 (fun g hg hin => Hap.out g (by simpa using hin) hg)
            have hap8 := apart_step hm8 (fun g hg => by obtain ⟨_, _, _, _, _, hh⟩ := (ho7.alloc (.cells #[.int .u8 (bits .xor .u8 (y.toNat : Int) 54)] 5)).form; exact hh g hg) Hap.out
            have c2 := (hK8.cell (p := ⟨b, off + k, none⟩) hbw (by simp)).trans c0
            obtain ⟨A8, n8, c8, rfl, _, _⟩ := ho8.form
            have Hf8 := Lib.hid hf8
            have Hap8 := Lib.hid hap8
            have hA2 : Kept [] w4 (w8.alloc (.cells #[.int .u8 (bits .xor .u8 (y.toNat : Int) 92)] 5)) := hK8.alloc _
            have HA2 := Lib.hid hA2
            clear hf8 hap8 hk8 hm8 HA ho6 ho7 hK6 Hf6 Hap HS6 L6 c1 hA2
            go_wp2_with (at_builtin; refine wpList_append_bytes rfl (.tmp 38) (.tmp 44) 22 rfl 5 i0 _ 1 Tryd.underlying22 hi hz0 hz1 hz2 rfl (.slice A7 n7 c7) _ rfl (ho78.alloc _) _ 1 1 [y ^^^ 92] rfl (RdB.one w8 5 _ _ (bits92 y)) (by rw [L7.out]; simp only [maxLen]; omega) (by rw [L7.out]; omega) ?_)
            intro v9 w9 ho9 hk9 hm9
            rw [← HS7.out] at ho9
            obtain ⟨hK9, hf9⟩ := app_new HA2.out Hf7.out hk9 hm9
            have hap7 : ∀ g, (Value.slice A7 n7 c7).ownBlock = some g → (Value.slice A8 n8 c8).ownBlock ≠ some g := fun g h1 h2 => Hap8.out g h2 h1
            have ho89 := (ho8.alloc (.cells #[.int .u8 (bits .xor .u8 (y.toNat : Int) 92)] 5)).kept hk9 (fun g hg hin => hap7 g (by simpa using hin) hg)
            have hap9 := apart_step hm9 (fun g hg => by obtain ⟨_, _, _, _, _, hh⟩ := (ho8.alloc (.cells #[.int .u8 (bits .xor .u8 (y.toNat : Int) 92)] 5)).form; exact hh g hg) hap7
            obtain ⟨A9, n9, c9, rfl, _, _⟩ := ho9.form
            have Hf9 := Lib.hid hf9
            have Hap9 : Hid (∀ g, (Value.slice A8 n8 c8).ownBlock = some g → (Value.slice A9 n9 c9).ownBlock ≠ some g) := Lib.hid (fun g h1 h2 => hap9 g h2 h1)
            clear hf9 hap9 hap7 hk9 hm9 HA2 ho8 ho78 hK8 Hf7 Hap8 HS7 L7 c2 c0
            go_wp2
            go_roundw
            case rel => exact ⟨k + 1, A8, n8, c8, A9, n9, c9, by omega, by go_num, rfl, rfl, ho89, ho9, hK9, Hf8, Hf9, Hap9⟩
            case measure => simp [intOf]; omega
          · obtain rfl : k = 64 := by omega
            rw [List.take_of_length_le (by have := Hl4.out; omega)] at ho6 ho7
            have hKw := hK4.andThen hK6
            have hp6 := hp1.kept0 hKw
            have hR6 := hR1.kept0 hKw
            have L6 : Hid ((hx 54 (hkey key)).length = 64) := Lib.hid (hxk_length _ _)
            have L7 : Hid ((hx 92 (hkey key)).length = 64) := Lib.hid (hxk_length _ _)
            clear hr4 hlt hk
            go_wp2_with (at_builtin; refine wpList_append_bytes rfl (.tmp 46) (.tmp 47) 22 rfl 5 i0 _ 1 Tryd.underlying22 hi hz0 hz1 hz2 rfl (.slice A6 n6 c6) _ rfl ho6 A' n' c' text rfl hp6 (by rw [L6.out]; simp only [maxLen]; omega) (by rw [L6.out]; omega) ?_)
            intro v8 w8 ho8 hk8 hm8
            obtain ⟨hK8, hf8⟩ := app_new hK6 Hf6.out hk8 hm8
            have ho78 := ho7.kept hk8 (fun g hg hin => Hap.out g (by simpa using hin) hg)
            obtain ⟨A8, n8, c8, rfl, hr8, _⟩ := ho8.form
            have hn8 : n8 ≤ 1000000 := by have := hr8.len; rw [List.length_append, L6.out, Hlt.out] at this; omega
            have hKw8 := hK4.andThen hK8
            clear ho6 ho7 hk8 hm8 hf8 hK6 hKw hp6 hR6 ho8 Hap Hf6
            go_wp2_with fail
            refine (rSum_any A8 n8 c8 _ _ hr8 hn8).mono ?_
            rintro e w9 ⟨rfl, hk9⟩
            have ho79 := ho78.kept0 hk9
            have hK9 := hK8.andThen hk9
            have hKw9 := hKw8.andThen hk9
            have hd9 := shaSum_length (hx 54 (hkey key) ++ text)
            have HT := Lib.hid (hTag_eq key text)
            clear ho78 hk9 hr8 hK8 hKw8
            generalize shaSum (hx 54 (hkey key) ++ text) = dg at *
            go_wp2_with fail
            refine (rBytes_any dg _ hd9).mono ?_
            rintro e w10 ⟨v10, rfl, ho10, hk10, hf10⟩
            obtain ⟨A10, n10, c10, rfl, hr10, _⟩ := ho10.form
            have hn10 : n10 = 32 := by have := hr10.len; omega
            subst hn10
            have ho710 := ho79.kept0 hk10
            have hK10 := hK9.andThen hk10
            have hKw10 := hKw9.andThen hk10
            clear ho79 hk10 hK9 hKw9 hf10 ho10
            go_wp2_with (at_builtin; refine wpList_append_bytes rfl (.tmp 49) (.tmp 52) 22 rfl 5 i0 _ 1 Tryd.underlying22 hi hz0 hz1 hz2 rfl (.slice A7 n7 c7) _ rfl ho710 A10 32 c10 dg rfl hr10 (by rw [L7.out]; simp only [maxLen]; omega) (by rw [L7.out]; omega) ?_)
            intro v11 w11 ho11 hk11 hm11
            obtain ⟨hK11, hf11⟩ := app_new hK10 Hf7.out hk11 hm11
            obtain ⟨A11, n11, c11, rfl, hr11, _⟩ := ho11.form
            have hn11 : n11 ≤ 1000000 := by have := hr11.len; rw [List.length_append, L7.out, hd9] at this; omega
            have hKw11 := hK4.andThen hK11
            clear ho710 hk11 hm11 hf11 hK10 hKw10 ho11 hr10 Hf7
            go_wp2_with fail
            refine (rSum_any A11 n11 c11 _ _ hr11 hn11).mono ?_
            rw [← HT.out]
            rintro e w12 ⟨rfl, hk12⟩
            have hR12 := (hR1.kept0 hKw11).kept0 hk12
            have hK12 := (hk1.andThen hKw11).andThen hk12
            have ht := hTag_length key text
            clear hr11 hKw11 hK11 hk12 hR1
            go_wp2_with (with_reducible change wpList _ _ _ (⟨_, Op.store _ _ _, _, _, _, _⟩ :: _) _ _; refine wpList_store_blk rfl 25 (.tmp 4) (.tmp 55) rfl g4 (bvs (hTag key text)) rfl rfl 25 (zb 32) hR12 (size_of_len size32 ht) (zb_len ht) (bvs_one _) ?_)
            intro w13 hR13 hk13 hs13
            go_wp2
            refine bodyPost_ret (results_blk rfl _ g4 25 _ _ rfl hR13 Tryd.underlying25 rfl (size_of_len size32 ht)) rfl ?_
            exact ⟨rfl, hK12.trans hk13 (by simp; omega)⟩
  · go_enter Tryd.func15, Tryd.ntmps15
    go_wp2_with (with_reducible change wpList _ _ _ (⟨_, Op.alloc _, _, _, _, _⟩ :: _) _ _; refine wpList_alloc_blk rfl 25 rfl _ zero32 ?_)
    intro w1 hR1 hk1 hs1
    obtain ⟨g4, hg4⟩ : ∃ g4, g4 = w.heap.size := ⟨_, rfl⟩
    rw [← hg4] at hR1 ⊢
    have hw4 : w.heap.size ≤ g4 := by omega
    clear hs1 hg4
    have hr1 := hr.kept0 hk1
    have hp1 := hp.kept0 hk1
    obtain ⟨k0, hk0⟩ : ∃ k0, k0 = key := ⟨_, rfl⟩
    have HK0 : Hid (k0.length ≤ 64) := Lib.hid (by rw [hk0]; omega)
    have HP : Hid (hpad k0 = hkey key) := Lib.hid (by rw [hk0]; exact (hkey_short (by omega)).symm)
    have hr1b : RdB w1 A n c k0 := by rw [hk0]; exact hr1
    clear hk0 hr hp hr1
    go_wp2_with (at_builtin; refine wpList_append_bytes rfl (.tmp 17) (.tmp 18) 22 rfl 5 i0 _ 1 Tryd.underlying22 hi hz0 hz1 hz2 rfl (.slice none 0 0) [] rfl (OwB.nil _ _) A n c k0 rfl hr1b (by simp [maxLen]; omega) (by simp; omega) ?_)
    intro v3 w3 ho3 hk3 hm3
    obtain ⟨hK3, hb3⟩ := app_new (Kept.refl [] w1) (by simp [Value.ownBlock]) hk3 hm3
    obtain ⟨A3, n3, c3, rfl, hr3, _⟩ := ho3.form
    clear hr3 hk3 hm3 hr1b
    go_wp2
    go_loopw [5] (fun v wr => ∃ (j : Nat) (A4 : Option Addr) (n4 c4 : Nat), v = .slice A4 n4 c4 ∧ OwB 5 wr (.slice A4 n4 c4) (k0 ++ List.replicate j 0) ∧ n4 ≤ 64 ∧ Hid (k0.length + j = n4) ∧ Kept [] w1 wr ∧ Hid (∀ g, (Value.slice A4 n4 c4).ownBlock = some g → w1.heap.size ≤ g)) (fun v _ => 64 - slenH v)
    case atStart => exact ⟨0, A3, n3, c3, rfl, by simpa using ho3, by have := ho3.rd.len; have := HK0.out; omega, Lib.hid (by have := ho3.rd.len; omega), hK3, Lib.hid hb3⟩
    case round =>
      obtain ⟨j, A4, n4, c4, rfl, ho4, hn4, Hj, hK4, Hb4⟩ := hrel
      clear ho3 hb3 hK3
      by_cases hlt : n4 < 64
      · have hL4 : Hid ((k0 ++ List.replicate j 0).length = n4) := Lib.hid (by rw [List.length_append, List.length_replicate]; exact Hj.out)
        have hA : Kept [] w1 (wr.alloc (.cells #[.int .u8 0] 5)) := hK4.alloc _
        have HA := Lib.hid hA
        clear hA
        go_wp2_with (at_builtin; refine wpList_append_bytes rfl (.tmp 23) (.tmp 24) 22 rfl 5 i0 _ 1 Tryd.underlying22 hi hz0 hz1 hz2 rfl (.slice A4 n4 c4) _ rfl (ho4.alloc _) _ 1 1 [0] rfl (RdB.one wr 5 0 0 rfl) (by rw [hL4.out]; simp only [maxLen]; omega) (by rw [hL4.out]; omega) ?_)
        intro v6 w6 ho6 hk6 hm6
        obtain ⟨hK6, hb6⟩ := app_new HA.out Hb4.out hk6 hm6
        obtain ⟨A6, n6, c6, rfl, hr6, _⟩ := ho6.form
        have hl6 : n6 = n4 + 1 := by have h1 := hr6.len; have h2 := hL4.out; simp only [List.length_append, List.length_replicate, List.length_singleton] at h1 h2; omega
        subst hl6
        have ho7 : OwB 5 w6 (.slice A6 (n4 + 1) c6) (k0 ++ List.replicate (j + 1) 0) := by
          rw [List.replicate_succ']; simpa only [List.append_assoc] using ho6
        have Hb6 := Lib.hid hb6
        have HO := Lib.hid ho7
        clear hr6 hb6 hk6 hm6 ho4 hK4 HA ho6 ho7
        go_wp2
        go_roundw
        case rel => exact ⟨j + 1, A6, n4 + 1, c6, rfl, HO.out, by omega, Lib.hid (by have := Hj.out; omega), hK6, Hb6⟩
        case measure => simp [slenH]; omega
      · obtain rfl : n4 = 64 := by omega
        rw [pad_more k0 j Hj.out, HP.out] at ho4
        obtain ⟨w4, rfl⟩ : ∃ w4, w4 = wr := ⟨_, rfl⟩
        have hr4 := ho4.rd
        have hl4 := hkey_length key
        have Hl4 := Lib.hid hl4
        clear hl4 ho4 Hj HP HK0 hlt hn4 Hb4
        go_wp2
        go_loopw [6, 7, 8] (fun u v i wr => ∃ (k : Nat) (A6 : Option Addr) (n6 c6 : Nat) (A7 : Option Addr) (n7 c7 : Nat), k ≤ 64 ∧ i = .int .i64 k ∧ u = .slice A6 n6 c6 ∧ v = .slice A7 n7 c7 ∧ OwB 5 wr (.slice A6 n6 c6) (hx 54 ((hkey key).take k)) ∧ OwB 5 wr (.slice A7 n7 c7) (hx 92 ((hkey key).take k)) ∧ Kept [] w4 wr ∧ Hid (∀ g, (Value.slice A6 n6 c6).ownBlock = some g → w4.heap.size ≤ g) ∧ Hid (∀ g, (Value.slice A7 n7 c7).ownBlock = some g → w4.heap.size ≤ g) ∧ Hid (∀ g, (Value.slice A6 n6 c6).ownBlock = some g → (Value.slice A7 n7 c7).ownBlock ≠ some g)) (fun _ _ i _ => 64 - (intOf i).toNat)
        case atStart => exact ⟨0, none, 0, 0, none, 0, 0, by omega, rfl, rfl, rfl, by rw [List.take_zero, hx_eq]; exact OwB.nil _ _, by rw [List.take_zero, hx_eq]; exact OwB.nil _ _, Kept.refl _ _, Lib.hid (by simp [Value.ownBlock]), Lib.hid (by simp [Value.ownBlock]), Lib.hid (by simp [Value.ownBlock])⟩
        case round =>
          obtain ⟨k, A6, n6, c6, A7, n7, c7, hk, rfl, rfl, rfl, ho6, ho7, hK6, Hf6, Hf7, Hap⟩ := hrel
          by_cases hlt : k < 64
          · obtain ⟨b, off, y, rfl, c0, hy, _⟩ := hr4.byte hlt
            obtain ⟨b2, off2, e2, hb2, _⟩ := hr4.at_ (by omega)
            have hbw : b < w4.heap.size := by cases e2; exact hb2
            have c1 := (hK6.cell (p := ⟨b, off + k, none⟩) hbw (by simp)).trans c0
            have hln : ((hkey key).take k).length = k := by rw [List.length_take]; have := Hl4.out; omega
            have L6 : Hid ((hx 54 ((hkey key).take k)).length = k) := Lib.hid (by rw [hx_length]; exact hln)
            have L7 : Hid ((hx 92 ((hkey key).take k)).length = k) := Lib.hid (by rw [hx_length]; exact hln)
            have HS6 := Lib.hid (hx_step 54 (hkey key) k y hy)
            have HS7 := Lib.hid (hx_step 92 (hkey key) k y hy)
            have hA : Kept [] w4 (wr.alloc (.cells #[.int .u8 (bits .xor .u8 (y.toNat : Int) 54)] 5)) := hK6.alloc _
            have HA := Lib.hid hA
            clear hln hy e2 hb2 hA
            go_wp2_with (at_builtin; refine wpList_append_bytes rfl (.tmp 30) (.tmp 36) 22 rfl 5 i0 _ 1 Tryd.underlying22 hi hz0 hz1 hz2 rfl (.slice A6 n6 c6) _ rfl (ho6.alloc _) _ 1 1 [y ^^^ 54] rfl (RdB.one wr 5 _ _ (bits54 y)) (by rw [L6.out]; simp only [maxLen]; omega) (by rw [L6.out]; omega) ?_)
            intro v8 w8 ho8 hk8 hm8
            rw [← HS6.out] at ho8
            obtain ⟨hK8, hf8⟩ := app_new HA.out Hf6.out hk8 hm8
            have ho78 := (ho7.alloc (.cells #[.int .u8 (bits .xor .u8 (y.toNat : Int) 54)] 5)).kept hk8 (fun g hg hin => Hap.out g (by simpa using hin) hg)
            have hap8 := apart_step hm8 (fun g hg => by obtain ⟨_, _, _, _, _, hh⟩ := (ho7.alloc (.cells #[.int .u8 (bits .xor .u8 (y.toNat : Int) 54)] 5)).form; exact hh g hg) Hap.out
            have c2 := (hK8.cell (p := ⟨b, off + k, none⟩) hbw (by simp)).trans c0
            obtain ⟨A8, n8, c8, rfl, _, _⟩ := ho8.form
            have Hf8 := Lib.hid hf8
            have Hap8 := Lib.hid hap8
            have hA2 : Kept [] w4 (w8.alloc (.cells #[.int .u8 (bits .xor .u8 (y.toNat : Int) 92)] 5)) := hK8.alloc _
            have HA2 := Lib.hid hA2
            clear hf8 hap8 hk8 hm8 HA ho6 ho7 hK6 Hf6 Hap HS6 L6 c1 hA2
            go_wp2_with (at_builtin; refine wpList_append_bytes rfl (.tmp 38) (.tmp 44) 22 rfl 5 i0 _ 1 Tryd.underlying22 hi hz0 hz1 hz2 rfl (.slice A7 n7 c7) _ rfl (ho78.alloc _) _ 1 1 [y ^^^ 92] rfl (RdB.one w8 5 _ _ (bits92 y)) (by rw [L7.out]; simp only [maxLen]; omega) (by rw [L7.out]; omega) ?_)
            intro v9 w9 ho9 hk9 hm9
            rw [← HS7.out] at ho9
            obtain ⟨hK9, hf9⟩ := app_new HA2.out Hf7.out hk9 hm9
            have hap7 : ∀ g, (Value.slice A7 n7 c7).ownBlock = some g → (Value.slice A8 n8 c8).ownBlock ≠ some g := fun g h1 h2 => Hap8.out g h2 h1
            have ho89 := (ho8.alloc (.cells #[.int .u8 (bits .xor .u8 (y.toNat : Int) 92)] 5)).kept hk9 (fun g hg hin => hap7 g (by simpa using hin) hg)
            have hap9 := apart_step hm9 (fun g hg => by obtain ⟨_, _, _, _, _, hh⟩ := (ho8.alloc (.cells #[.int .u8 (bits .xor .u8 (y.toNat : Int) 92)] 5)).form; exact hh g hg) hap7
            obtain ⟨A9, n9, c9, rfl, _, _⟩ := ho9.form
            have Hf9 := Lib.hid hf9
            have Hap9 : Hid (∀ g, (Value.slice A8 n8 c8).ownBlock = some g → (Value.slice A9 n9 c9).ownBlock ≠ some g) := Lib.hid (fun g h1 h2 => hap9 g h2 h1)
            clear hf9 hap9 hap7 hk9 hm9 HA2 ho8 ho78 hK8 Hf7 Hap8 HS7 L7 c2 c0
            go_wp2
            go_roundw
            case rel => exact ⟨k + 1, A8, n8, c8, A9, n9, c9, by omega, by go_num, rfl, rfl, ho89, ho9, hK9, Hf8, Hf9, Hap9⟩
            case measure => simp [intOf]; omega
          · obtain rfl : k = 64 := by omega
            rw [List.take_of_length_le (by have := Hl4.out; omega)] at ho6 ho7
            have hKw := hK4.andThen hK6
            have hp6 := hp1.kept0 hKw
            have hR6 := hR1.kept0 hKw
            have L6 : Hid ((hx 54 (hkey key)).length = 64) := Lib.hid (hxk_length _ _)
            have L7 : Hid ((hx 92 (hkey key)).length = 64) := Lib.hid (hxk_length _ _)
            clear hr4 hlt hk
            go_wp2_with (at_builtin; refine wpList_append_bytes rfl (.tmp 46) (.tmp 47) 22 rfl 5 i0 _ 1 Tryd.underlying22 hi hz0 hz1 hz2 rfl (.slice A6 n6 c6) _ rfl ho6 A' n' c' text rfl hp6 (by rw [L6.out]; simp only [maxLen]; omega) (by rw [L6.out]; omega) ?_)
            intro v8 w8 ho8 hk8 hm8
            obtain ⟨hK8, hf8⟩ := app_new hK6 Hf6.out hk8 hm8
            have ho78 := ho7.kept hk8 (fun g hg hin => Hap.out g (by simpa using hin) hg)
            obtain ⟨A8, n8, c8, rfl, hr8, _⟩ := ho8.form
            have hn8 : n8 ≤ 1000000 := by have := hr8.len; rw [List.length_append, L6.out, Hlt.out] at this; omega
            have hKw8 := hK4.andThen hK8
            clear ho6 ho7 hk8 hm8 hf8 hK6 hKw hp6 hR6 ho8 Hap Hf6
            go_wp2_with fail
            refine (rSum_any A8 n8 c8 _ _ hr8 hn8).mono ?_
            rintro e w9 ⟨rfl, hk9⟩
            have ho79 := ho78.kept0 hk9
            have hK9 := hK8.andThen hk9
            have hKw9 := hKw8.andThen hk9
            have hd9 := shaSum_length (hx 54 (hkey key) ++ text)
            have HT := Lib.hid (hTag_eq key text)
            clear ho78 hk9 hr8 hK8 hKw8
            generalize shaSum (hx 54 (hkey key) ++ text) = dg at *
            go_wp2_with fail
            refine (rBytes_any dg _ hd9).mono ?_
            rintro e w10 ⟨v10, rfl, ho10, hk10, hf10⟩
            obtain ⟨A10, n10, c10, rfl, hr10, _⟩ := ho10.form
            have hn10 : n10 = 32 := by have := hr10.len; omega
            subst hn10
            have ho710 := ho79.kept0 hk10
            have hK10 := hK9.andThen hk10
            have hKw10 := hKw9.andThen hk10
            clear ho79 hk10 hK9 hKw9 hf10 ho10
            go_wp2_with (at_builtin; refine wpList_append_bytes rfl (.tmp 49) (.tmp 52) 22 rfl 5 i0 _ 1 Tryd.underlying22 hi hz0 hz1 hz2 rfl (.slice A7 n7 c7) _ rfl ho710 A10 32 c10 dg rfl hr10 (by rw [L7.out]; simp only [maxLen]; omega) (by rw [L7.out]; omega) ?_)
            intro v11 w11 ho11 hk11 hm11
            obtain ⟨hK11, hf11⟩ := app_new hK10 Hf7.out hk11 hm11
            obtain ⟨A11, n11, c11, rfl, hr11, _⟩ := ho11.form
            have hn11 : n11 ≤ 1000000 := by have := hr11.len; rw [List.length_append, L7.out, hd9] at this; omega
            have hKw11 := hK4.andThen hK11
            clear ho710 hk11 hm11 hf11 hK10 hKw10 ho11 hr10 Hf7
            go_wp2_with fail
            refine (rSum_any A11 n11 c11 _ _ hr11 hn11).mono ?_
            rw [← HT.out]
            rintro e w12 ⟨rfl, hk12⟩
            have hR12 := (hR1.kept0 hKw11).kept0 hk12
            have hK12 := (hk1.andThen hKw11).andThen hk12
            have ht := hTag_length key text
            clear hr11 hKw11 hK11 hk12 hR1
            go_wp2_with (with_reducible change wpList _ _ _ (⟨_, Op.store _ _ _, _, _, _, _⟩ :: _) _ _; refine wpList_store_blk rfl 25 (.tmp 4) (.tmp 55) rfl g4 (bvs (hTag key text)) rfl rfl 25 (zb 32) hR12 (size_of_len size32 ht) (zb_len ht) (bvs_one _) ?_)
            intro w13 hR13 hk13 hs13
            go_wp2
            refine bodyPost_ret (results_blk rfl _ g4 25 _ _ rfl hR13 Tryd.underlying25 rfl (size_of_len size32 ht)) rfl ?_
            exact ⟨rfl, hK12.trans hk13 (by simp; omega)⟩
end Go.Proofs.YtckffideobjlfaaDoor
