/-
  Walk of layer 7's law GfLinear. No statement of the seed is proved here.
-/
import Derived.Test.YtmoelakdfgggfaaLaw7a
import Derived.Test.YtmoelakdfgggfaaGf3s
import Derived.Test.YtmoelakdfgggfaaGf5
import Derived.Test.YtmoelakdfgggfaaRef1
namespace Go.Proofs.Ytmoelakdfgggfaa
open Go.RowKit
set_option linter.unusedVariables false

/-- As a text that is read, all else kept. -/
theorem scale7_r (p : Nat) (c : UInt8) (z : Int) (A : Option Addr) (n cc : Nat) (text out : List UInt8) (w : World) (hT : TabAt w p) (hz : z = (c.toNat : Int)) (hr : RdB w A n cc text) (hn : n ≤ 1000000) (ho : gscale c text = out) :
    Calls Try.prog 24 #[.pointer (some ⟨p, 0, none⟩), .int .u8 z, .slice A n cc] w fun e w' => ∃ g, e = .returned (.slice (some ⟨g, 0, none⟩) n n) ∧ RdB w' (some ⟨g, 0, none⟩) n n out ∧ TabAt w' p ∧ Kept [] w w' :=
  (scale7_any p c z A n cc text w hT hz hr hn).mono fun e w' h => by
    subst ho
    obtain ⟨g, m, h1, h2, h3, _, h5⟩ := h
    have hl := hr.len
    obtain rfl : m = n := by rw [gscale_length] at h3; omega
    exact ⟨g, h1, h2.rdb 0 m m _ (by rw [List.drop_zero, List.take_of_length_le (by rw [bvs_length]; omega)]) h3 (Nat.le_refl _) (by simp only [maxLen]; omega), hT.kept0 h5, h5⟩
theorem same7_t (A A' : Option Addr) (n c c' : Nat) (bs : List UInt8) (w : World) (ha : RdB w A n c bs) (hb : RdB w A' n c' bs) :
    Calls Try.prog 22 #[.slice A n c, .slice A' n c'] w fun e w' => e = .returned (.bool true) ∧ Kept [] w w' :=
  (same_yes A A' n c c' bs w ha hb).mono fun e w' h => by
    obtain ⟨h1, m, rfl⟩ := h
    exact ⟨h1, (Kept.refl [] w).drewN m⟩
theorem sum_two_v (c d : UInt8) (l : List UInt8) : gSumV [c, d] [l, l] = gscale (c ^^^ d) l ∧ gSumE [c, d] [l, l] = 0 := by
  have h1 : one1 [l, l] = true := by simp [one1]
  unfold gSumV gSumE
  rw [if_pos ⟨rfl, h1⟩, if_pos ⟨rfl, h1⟩]
  exact ⟨gsum_two c d l, rfl⟩

set_option maxRecDepth 100000 in
set_option maxHeartbeats 4000000 in
theorem linear_walk (zc zd : Int) (A : Option Addr) (n cc : Nat) (bs : List UInt8) (w : World) (hc : (Lit.int .u8 zc).wf = true) (hd : (Lit.int .u8 zd).wf = true) (hr : RdB w A n cc bs) :
    Calls Try.prog 8 #[.int .u8 zc, .int .u8 zd, .slice A n cc] w fun e w' => e = .returned (.bool true) ∧ Kept [] w w' := by
  obtain ⟨c, rfl⟩ := byte_of_int hc
  obtain ⟨d, rfl⟩ := byte_of_int hd
  have HR := Lib.hid hr
  have Hl := Lib.hid hr.len
  have b1 := hr.cap
  have b2 := hr.most
  unfold maxLen at b2
  clear hc hd hr
  by_cases hbig : n ≤ 300
  · obtain ⟨s, hs⟩ : ∃ z : Int, ((c ^^^ d).toNat : Int) = z := ⟨_, rfl⟩
    obtain ⟨cd, hcd⟩ : ∃ z : Int, ((gmul 0x1d c d).toNat : Int) = z := ⟨_, rfl⟩
    have hxs : bits .xor .u8 (c.toNat : Int) (d.toNat : Int) = s := by rw [bits_xorB]; exact hs
    have Hs := Lib.hid hs
    have Hcd := Lib.hid hcd
    have HV := Lib.hid (sum_two_v c d bs)
    have HSS := Lib.hid (gscale_scale c d bs)
    have HL1 : Hid ((gscale (c ^^^ d) bs).length = n) := Lib.hid (by rw [gscale_length]; exact Hl.out)
    obtain ⟨X1, hX1⟩ : ∃ X, gscale (c ^^^ d) bs = X := ⟨_, rfl⟩
    obtain ⟨X2, hX2⟩ : ∃ X, gscale d bs = X := ⟨_, rfl⟩
    obtain ⟨X3, hX3⟩ : ∃ X, gscale (gmul 0x1d c d) bs = X := ⟨_, rfl⟩
    have H1 := Lib.hid hX1
    have H2 := Lib.hid hX2
    have H3 := Lib.hid hX3
    have H4 : Hid (gscale c X2 = X3) := Lib.hid (by rw [← hX2, ← hX3]; exact HSS.out)
    rw [hX1] at HV HL1
    clear hs hcd HSS hX1 hX2 hX3
    go_enter Try.func8, Try.ntmps8
    go_wp2_with fail
    refine (wakes7_any _).mono ?_
    rintro e w1 ⟨rfl, hk1⟩
    go_wp2_with fail
    refine (make7_any _).mono ?_
    rintro e w2 ⟨p, rfl, hT, hp, hk2⟩
    have hK2 := hk1.andThen hk2
    have hr2 := HR.out.kept0 hK2
    have hc1 : RdB (w2.alloc (.cells #[.int .u8 (c.toNat : Int), .int .u8 (d.toNat : Int)] 5)) (some ⟨w2.heap.size, 0, none⟩) 2 2 [c, d] := RdB.lit w2 5 _ 2 [c, d] rfl rfl (by simp [maxLen])
    have hk3 : Kept [] w2 (w2.alloc (.cells #[.int .u8 (c.toNat : Int), .int .u8 (d.toNat : Int)] 5)) := (Kept.refl [] w2).alloc _
    have hsz : (w2.alloc (.cells #[.int .u8 (c.toNat : Int), .int .u8 (d.toNat : Int)] 5)).heap.size = w2.heap.size + 1 := by simp
    have hl1 := RdL.two 35 (hr2.kept0 hk3) (hr2.kept0 hk3)
    rw [hsz] at hl1
    have hk4 : Kept [] w2 ((w2.alloc (.cells #[.int .u8 (c.toNat : Int), .int .u8 (d.toNat : Int)] 5)).alloc (.cells #[.slice A n cc, .slice A n cc] 35)) := hk3.alloc _
    have HF := Lib.hid (And.intro (hc1.alloc (.cells #[.slice A n cc, .slice A n cc] 35)) (And.intro hl1 (And.intro (hT.kept0 hk4) (And.intro (hK2.andThen hk4) (hr2.kept0 hk4)))))
    clear hK2 hr2 hc1 hk3 hsz hl1 hk4 hT hp hk1 hk2
    go_wp2_with fail
    refine (sum7_any p _ 2 2 [c, d] _ 2 2 [bs, bs] _ HF.out.2.2.1 HF.out.1 HF.out.2.1 (by intro l hl; rw [show l = bs by simpa using hl, Hl.out]; omega)).mono ?_
    rw [HV.out.1, HV.out.2]
    rintro e w3 ⟨A3, n3, c3, rfl, hr3, hk3⟩
    obtain rfl : n3 = n := by rw [← hr3.len]; exact HL1.out
    have HQ := Lib.hid (And.intro hr3 (And.intro (HF.out.2.2.1.kept0 hk3) (And.intro (HF.out.2.2.2.1.andThen hk3) (HF.out.2.2.2.2.kept0 hk3))))
    have d1 := hr3.cap
    have d2 := hr3.most
    unfold maxLen at d2
    clear HF hr3 hk3
    go_wp2_with fail
    refine (scale7_r p (c ^^^ d) _ A n3 cc bs X1 _ HQ.out.2.1 Hs.out.symm HQ.out.2.2.2 (by omega) H1.out).mono ?_
    rintro e w4 ⟨g4, rfl, hr4, hT4, hk4⟩
    have HR4 := Lib.hid (And.intro hr4 (And.intro hT4 (And.intro (HQ.out.2.2.1.andThen hk4) (And.intro (HQ.out.2.2.2.kept0 hk4) (HQ.out.1.kept0 hk4)))))
    clear HQ hr4 hT4 hk4
    go_wp2_with fail
    refine (same7_t _ _ _ _ _ X1 _ HR4.out.2.2.2.2 HR4.out.1).mono ?_
    rintro e w5 ⟨rfl, hk5⟩
    have HR5 := Lib.hid (And.intro (HR4.out.2.1.kept0 hk5) (And.intro (HR4.out.2.2.1.andThen hk5) (HR4.out.2.2.2.1.kept0 hk5)))
    clear HR4 hk5
    go_wp2_with fail
    refine (scale7_r p d _ A n3 cc bs X2 _ HR5.out.1 rfl HR5.out.2.2 (by omega) H2.out).mono ?_
    rintro e w6 ⟨g6, rfl, hr6, hT6, hk6⟩
    have HR6 := Lib.hid (And.intro hr6 (And.intro hT6 (And.intro (HR5.out.2.1.andThen hk6) (HR5.out.2.2.kept0 hk6))))
    clear HR5 hr6 hT6 hk6
    go_wp2_with fail
    refine (scale7_r p c _ _ n3 n3 X2 X3 _ HR6.out.2.1 rfl HR6.out.1 (by omega) H4.out).mono ?_
    rintro e w7 ⟨g7, rfl, hr7, hT7, hk7⟩
    have HR7 := Lib.hid (And.intro hr7 (And.intro hT7 (And.intro (HR6.out.2.2.1.andThen hk7) (HR6.out.2.2.2.kept0 hk7))))
    clear HR6 hr7 hT7 hk7
    go_wp2_with fail
    refine (mul7_v p c d _ _ cd _ HR7.out.2.1 rfl rfl Hcd.out).mono ?_
    rintro e w8 ⟨rfl, hT8, hk8⟩
    have HR8 := Lib.hid (And.intro (HR7.out.1.kept0 hk8) (And.intro hT8 (And.intro (HR7.out.2.2.1.andThen hk8) (HR7.out.2.2.2.kept0 hk8))))
    clear HR7 hT8 hk8
    go_wp2_with fail
    refine (scale7_r p (gmul 0x1d c d) _ A n3 cc bs X3 _ HR8.out.2.1 Hcd.out.symm HR8.out.2.2.2 (by omega) H3.out).mono ?_
    rintro e w9 ⟨g9, rfl, hr9, hT9, hk9⟩
    have HR9 := Lib.hid (And.intro (HR8.out.1.kept0 hk9) (And.intro hr9 (HR8.out.2.2.1.andThen hk9)))
    clear HR8 hr9 hT9 hk9
    go_wp2_with fail
    refine (same7_t _ _ _ _ _ X3 _ HR9.out.1 HR9.out.2.1).mono ?_
    rintro e wa ⟨rfl, hka⟩
    have hKa := HR9.out.2.2.andThen hka
    clear HR9 hka
    go_wp2
    go_ret
    exact ⟨rfl, hKa⟩
  · go_enter Try.func8, Try.ntmps8
    go_wp2_with fail
    refine (wakes7_any _).mono ?_
    rintro e w1 ⟨rfl, hk1⟩
    go_wp2
    go_ret
    exact ⟨rfl, hk1⟩
end Go.Proofs.Ytmoelakdfgggfaa
