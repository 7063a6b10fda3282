/-
  Contracts of layer 5 (aes): words of bytes, turned, doubled, exchanged. No statement of the seed is proved here.
-/
import Derived.Test.YtmjeojbdieaakaaDoorAes1
namespace Go.Proofs.YtmjeojbdieaakaaDoor
open Go.RowKit
set_option linter.unusedVariables false

theorem aword_any (a b c d : UInt8) (w : World) : Calls Tryd.prog 82 #[.int .u8 (a.toNat : Int), .int .u8 (b.toNat : Int), .int .u8 (c.toNat : Int), .int .u8 (d.toNat : Int)] w fun e w' => e = .returned (.int .u32 (wv (w4 a b c d))) ∧ w' = w := by
  have ha := a.toNat_lt
  have hb := b.toNat_lt
  have hc := c.toNat_lt
  have hd := d.toNat_lt
  go_enter Tryd.func82, Tryd.ntmps82
  go_wp2
  go_ret
  exact ⟨ret_int (by rw [w4_eq]; exact word4 _ _ _ _), rfl⟩
theorem aleft_any (x : W32) (n : Nat) (z : Int) (w : World) (hz : z = (n : Int)) (h1 : 1 ≤ n) (h2 : n < 32) :
    Calls Tryd.prog 84 #[.int .u32 (wv x), .int .i64 z] w fun e w' => e = .returned (.int .u32 (wv (rotl x n))) ∧ ∃ m, w' = w.drewN m := by
  subst hz
  have b0 := wv_nonneg x
  have b1 := wv_lt x
  go_enter Tryd.func84, Tryd.ntmps84
  go_wp2
  go_quiet (fail)
  go_wp2
  go_ret
  exact ⟨ret_int (by rw [wv_shr, wv_shl, bits_orW]; rfl), nq, rfl⟩
theorem and7f (x : W32) : bits .and .u32 (wv x) 2139062143 = wv (x &&& 2139062143) := by
  have e : (2139062143 : Int) = wv 2139062143 := by rw [wv_eq]; rfl
  rw [e, bits_andW]
theorem and01 (x : W32) : bits .and .u32 (wv x) 16843009 = wv (x &&& 16843009) := by
  have e : (16843009 : Int) = wv 16843009 := by rw [wv_eq]; rfl
  rw [e, bits_andW]
theorem wv_shr7 (x : W32) : wv x / (128 : Int) = wv (x >>> 7) := by
  have := wv_shr x 7
  rwa [show (2 : Int) ^ 7 = 128 by decide] at this
theorem wv_shl1 (x : W32) : wv x * (2 : Int) % (4294967296 : Int) = wv (x <<< 1) := by
  have := wv_shl x 1
  rwa [show (2 : Int) ^ 1 = 2 by decide] at this
theorem wv_mul27 (x : W32) : wv x * (27 : Int) % (4294967296 : Int) = wv (x * 27) := by
  rw [wv_eq, wv_eq, BitVec.toNat_mul]
  rw [show BitVec.toNat (27 : W32) = 27 by decide]
  omega
theorem adouble_any (x : W32) (w : World) : Calls Tryd.prog 85 #[.int .u32 (wv x)] w fun e w' => e = .returned (.int .u32 (wv (dblW x))) ∧ w' = w := by
  have b0 := wv_nonneg x
  have b1 := wv_lt x
  go_enter Tryd.func85, Tryd.ntmps85
  go_wp2
  go_ret
  exact ⟨ret_int (by rw [and7f, wv_shl1, wv_shr7, and01, wv_mul27, bits_xorW]; rfl), rfl⟩

/-- The table lies at the head of block g. -/
def TbAt (w : World) (g : Nat) : Prop := ∀ x : UInt8, w.cell? ⟨g, x.toNat, none⟩ = some (.int .u8 ((sb x).toNat : Int))
theorem TbAt.lt {w : World} {g : Nat} (h : TbAt w g) : g < w.heap.size := World.block_lt_of_cell? w _ (h 0)
theorem TbAt.kept {w w' : World} {g : Nat} {S : List Nat} (h : TbAt w g) (hk : Kept S w w') (hS : g ∉ S) : TbAt w' g := fun x => (hk.cell (p := ⟨g, x.toNat, none⟩) h.lt hS).trans (h x)
theorem TbAt.kept0 {w w' : World} {g : Nat} (h : TbAt w g) (hk : Kept [] w w') : TbAt w' g := h.kept hk (by simp)
theorem byte_at (x : W32) : wv x / 16777216 % 256 = ((UInt8.ofNat (x.toNat / 16777216)).toNat : Int) ∧ wv x / 65536 % 256 = ((UInt8.ofNat (x.toNat / 65536)).toNat : Int) ∧ wv x / 256 % 256 = ((UInt8.ofNat (x.toNat / 256)).toNat : Int) ∧ wv x % 256 = ((UInt8.ofNat x.toNat).toNat : Int) := by
  rw [wv_eq, ofNat_toNat, ofNat_toNat, ofNat_toNat, ofNat_toNat]
  omega

theorem tword_any (g : Nat) (x : W32) (w : World) (ht : TbAt w g) :
    Calls Tryd.prog 83 #[.pointer (some ⟨g, 0, none⟩), .int .u32 (wv x)] w fun e w' => e = .returned (.int .u32 (wv (exchW x))) ∧ ∃ m, w' = w.drewN m := by
  have b0 := wv_nonneg x
  have b1 := wv_lt x
  obtain ⟨e1, e2, e3, e4⟩ := byte_at x
  have c1 := ht (UInt8.ofNat (x.toNat / 16777216))
  have c2 := ht (UInt8.ofNat (x.toNat / 65536))
  have c3 := ht (UInt8.ofNat (x.toNat / 256))
  have c4 := ht (UInt8.ofNat x.toNat)
  have hw : exchW x = w4 (sb (UInt8.ofNat (x.toNat / 16777216))) (sb (UInt8.ofNat (x.toNat / 65536))) (sb (UInt8.ofNat (x.toNat / 256))) (sb (UInt8.ofNat x.toNat)) := rfl
  rw [hw]
  clear hw ht
  generalize UInt8.ofNat (x.toNat / 16777216) = p1 at *
  generalize UInt8.ofNat (x.toNat / 65536) = p2 at *
  generalize UInt8.ofNat (x.toNat / 256) = p3 at *
  generalize UInt8.ofNat x.toNat = p4 at *
  have l1 := p1.toNat_lt
  have l2 := p2.toNat_lt
  have l3 := p3.toNat_lt
  have l4 := p4.toNat_lt
  have q1 : IntKind.u8.wrap (wv x / 16777216) = (p1.toNat : Int) := (IntKind.wrap_u8' _).trans e1
  have q2 : IntKind.u8.wrap (wv x / 65536) = (p2.toNat : Int) := (IntKind.wrap_u8' _).trans e2
  have q3 : IntKind.u8.wrap (wv x / 256) = (p3.toNat : Int) := (IntKind.wrap_u8' _).trans e3
  have q4 : IntKind.u8.wrap (wv x) = (p4.toNat : Int) := (IntKind.wrap_u8' _).trans e4
  have z1 : (p1.toNat : Int) < 256 := by omega
  have z2 : (p2.toNat : Int) < 256 := by omega
  have z3 : (p3.toNat : Int) < 256 := by omega
  have z4 : (p4.toNat : Int) < 256 := by omega
  go_enter Tryd.func83, Tryd.ntmps83
  go_wp2
  go_quiet (first | (go_at_call 82; refine Calls.quiet_of ((aword_any (sb p1) (sb p2) (sb p3) (sb p4) _).mono fun e w' h => ⟨h.1, 0, by rw [h.2]; rfl⟩)))
  go_wp2
  go_ret
  exact ⟨rfl, nq, rfl⟩
end Go.Proofs.YtmjeojbdieaakaaDoor
