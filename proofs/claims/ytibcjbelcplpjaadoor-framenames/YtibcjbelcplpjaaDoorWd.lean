/-
  Helper words on words of 32 bits: the walk's own spellings of their operations, rows of them. No statement of the seed is proved here.
-/
import Derived.Test.YtibcjbelcplpjaaDoorBlk
import Derived.Test.YtibcjbelcplpjaaDoorShaMath
import Derived.Laws.BitsAllLaws
namespace Go.Proofs.YtibcjbelcplpjaaDoor
open Go.RowKit
set_option linter.unusedVariables false

theorem wv_shr (x : W32) (n : Nat) : wv x / 2 ^ n = wv (x >>> n) := by
  rw [wv_eq, wv_eq, BitVec.toNat_ushiftRight, Nat.shiftRight_eq_div_pow]
  have : ((2 : Int) ^ n) = ((2 ^ n : Nat) : Int) := by simp
  rw [this]
  omega
theorem wv_shl (x : W32) (n : Nat) : wv x * 2 ^ n % 4294967296 = wv (x <<< n) := by
  rw [wv_eq, wv_eq, BitVec.toNat_shiftLeft, Nat.shiftLeft_eq]
  have : ((2 : Int) ^ n) = ((2 ^ n : Nat) : Int) := by simp
  rw [this]
  omega
theorem bits_orW (x y : W32) : bits .or .u32 (wv x) (wv y) = wv (x ||| y) := by
  rw [wv_eq, wv_eq, wv_eq, BitVec.toNat_or]; exact u32_or_nat _ _ (by have := x.isLt; omega) (by have := y.isLt; omega)
theorem bits_andW (x y : W32) : bits .and .u32 (wv x) (wv y) = wv (x &&& y) := by
  rw [wv_eq, wv_eq, wv_eq, BitVec.toNat_and]; exact u32_and_nat _ _ (by have := x.isLt; omega) (by have := y.isLt; omega)
theorem bits_xorW (x y : W32) : bits .xor .u32 (wv x) (wv y) = wv (x ^^^ y) := by
  rw [wv_eq, wv_eq, wv_eq, BitVec.toNat_xor]; exact u32_xor_nat _ _ (by have := x.isLt; omega) (by have := y.isLt; omega)

theorem word4 (a b c d : UInt8) : bits .or .u32 (bits .or .u32 (bits .or .u32 ((a.toNat : Int) * 16777216) ((b.toNat : Int) * 65536)) ((c.toNat : Int) * 256)) (d.toNat : Int) = wv (wd [a, b, c, d]) := by
  have ha := a.toNat_lt
  have hb := b.toNat_lt
  have hc := c.toNat_lt
  have hd := d.toNat_lt
  have e1 : ((a.toNat : Int) * 16777216) = ((a.toNat * 16777216 : Nat) : Int) := by omega
  have e2 : ((b.toNat : Int) * 65536) = ((b.toNat * 65536 : Nat) : Int) := by omega
  have e3 : ((c.toNat : Int) * 256) = ((c.toNat * 256 : Nat) : Int) := by omega
  rw [e1, e2, e3, u32_or_nat _ _ (by omega) (by omega), nat_join 24 _ _ (by omega) (by omega), u32_or_nat _ _ (by omega) (by omega), nat_join 16 _ _ (by omega) (by omega), u32_or_nat _ _ (by omega) (by omega), nat_join 8 _ _ (by omega) (by omega)]
  unfold wd
  rw [wv_ofNat]
  · simp [num]; omega
  · simp [num]; omega

theorem be4 (x : Nat) : be 4 x = [UInt8.ofNat (x / 2 ^ 24), UInt8.ofNat (x / 2 ^ 16), UInt8.ofNat (x / 2 ^ 8), UInt8.ofNat (x / 2 ^ 0)] := by
  simp [be, Nat.div_div_eq_div_mul]
theorem be4_get (x i : Nat) (h : i < 4) : (be 4 x)[i]? = some (UInt8.ofNat (x / 2 ^ (24 - 8 * i))) := by
  rw [be4]
  have : i = 0 ∨ i = 1 ∨ i = 2 ∨ i = 3 := by omega
  rcases this with rfl | rfl | rfl | rfl <;> rfl
theorem byteW (x : W32) (d : Nat) : wv x / 2 ^ d % 256 = ((UInt8.ofNat (x.toNat / 2 ^ d)).toNat : Int) := by
  rw [ofNat_toNat, wv_eq]
  have : ((2 : Int) ^ d) = ((2 ^ d : Nat) : Int) := by simp
  rw [this]
  omega

/-- A call that leaves in block g these cells, and turns nothing else that was there. -/
def SetRet (g : Nat) (t : TypeId) (cs : List Value) (w : World) (e : Ending) (w' : World) : Prop := e = .returned (.tuple #[]) ∧ Blk w' g t cs ∧ Kept [g] w w'

theorem wv_shr3 (x : W32) : wv x / (8 : Int) = wv (x >>> 3) := by
  have := wv_shr x 3
  rwa [show (2 : Int) ^ 3 = 8 by decide] at this
theorem wv_shr10 (x : W32) : wv x / (1024 : Int) = wv (x >>> 10) := by
  have := wv_shr x 10
  rwa [show (2 : Int) ^ 10 = 1024 by decide] at this
/-- A word's cell. -/
def wcell (x : W32) : Value := .int .u32 (wv x)
def wvs (l : List W32) : List Value := l.map wcell
theorem wvs_length (l : List W32) : (wvs l).length = l.length := by simp [wvs]
theorem wvs_append (a b : List W32) : wvs (a ++ b) = wvs a ++ wvs b := by simp [wvs]
theorem wvs_one (l : List W32) : ∀ u ∈ wvs l, u.oneCell' = true := by
  intro u hu
  simp only [wvs, List.mem_map] at hu
  obtain ⟨b, _, rfl⟩ := hu
  rfl
theorem wvs_get (l : List W32) (j : Nat) (h : j < l.length) : (wvs l)[j]? = some (.int .u32 (wv (l.getD j 0))) := by simp [wvs, h, wcell]
theorem notW (x : W32) : bits .xor .u32 IntKind.u32.max (wv x) = wv (~~~x) := by
  have e : IntKind.u32.max = wv (BitVec.allOnes 32) := by rw [wv_eq]; decide
  rw [e, bits_xorW, BitVec.allOnes_xor]
/-- The first n of one list, the rest of another. -/
def mid (A B : List W32) (n : Nat) : List W32 := A.take n ++ B.drop n
theorem mid_length (A B : List W32) (n : Nat) (hA : A.length = B.length) (h : n ≤ B.length) : (mid A B n).length = B.length := by simp [mid]; omega
theorem mid_get (A B : List W32) (n : Nat) (hA : A.length = B.length) (h : n < B.length) : (mid A B n)[n]? = B[n]? := by
  unfold mid
  rw [List.getElem?_append_right (by rw [List.length_take]; omega), List.length_take, List.getElem?_drop]
  congr 1; omega
theorem mid_set (A B : List W32) (n : Nat) (hA : A.length = B.length) (h : n < B.length) : (mid A B n).set n (A.getD n 0) = mid A B (n + 1) := by
  unfold mid
  have e1 : (A.take n).length = n := by rw [List.length_take]; omega
  rw [List.set_append_right _ _ (by omega), e1, Nat.sub_self, List.drop_eq_getElem_cons h, List.set_cons_zero]
  rw [take_step A n (A.getD n 0) (by rw [List.getElem?_eq_getElem (by omega), List.getD_eq_getElem?_getD, List.getElem?_eq_getElem (by omega)]; rfl), List.append_assoc]
  rfl
theorem mid_all (A B : List W32) (hA : A.length = B.length) : mid A B B.length = A := by
  unfold mid; rw [List.drop_of_length_le (Nat.le_refl _), List.append_nil, List.take_of_length_le (by omega)]
def midc (A B : List W32) (n : Nat) (r : List Value) : List Value := wvs (mid A B n) ++ r
theorem midc_get (A B : List W32) (n : Nat) (r : List Value) (hA : A.length = B.length) (h : n < B.length) : (midc A B n r)[n]? = some (.int .u32 (wv (B.getD n 0))) := by
  unfold midc
  have hl := mid_length A B n hA (by omega)
  rw [List.getElem?_append_left (by rw [wvs_length]; omega), wvs_get _ _ (by omega), List.getD_eq_getElem?_getD, mid_get A B n hA h, ← List.getD_eq_getElem?_getD]
theorem midc_set (A B : List W32) (n : Nat) (r : List Value) (hA : A.length = B.length) (h : n < B.length) : (midc A B n r).set n (.int .u32 (wv (A.getD n 0))) = midc A B (n + 1) r := by
  unfold midc
  have hl := mid_length A B n hA (by omega)
  rw [List.set_append_left _ _ (by rw [wvs_length]; omega), ← mid_set A B n hA h]
  simp [wvs, List.map_set, wcell]
theorem run_index_agg {P : Program} (t e : TypeId) (n : Nat) (cs : Array Value) (i : Nat) (v : Value) (W : World) (hu : P.underlying t = some (.array n e)) (hs : (P.info? e).map (·.size) = some 1) (d : TypeDesc) (he : P.underlying e = some d) (hd : d.isRow = false) (hi : i < n) (hv : cs[i]? = some v) :
    (Instr.index t (.agg cs) (.int .i64 (i : Int))).run P W = .ok v W := by
  cases hq : P.info? e with
  | none => simp [hq] at hs
  | some inf =>
    have hsz : inf.size = 1 := by simpa [hq] using hs
    have hagg : (isAgg e).run P W = .ok false W := by
      unfold isAgg
      rw [Sem.run_bind, run_underlying he W]
      cases d <;> simp_all
    simp [Instr.index, asIntOf, run_underlying hu, sizeOf, typeInfo, hq, hsz, part, hagg, hv, hi]
theorem wv_add4 (a b c d : W32) : (wv a + wv b + wv c + wv d) % 4294967296 = wv (a + b + c + d) := by
  rw [← wv_add (a + b + c), ← wv_add (a + b), ← wv_add a]; omega
theorem wv_add3 (a b c : W32) : (wv a + wv b + wv c) % 4294967296 = wv (a + b + c) := by
  rw [← wv_add (a + b), ← wv_add a]; omega
/-- A row of words that comes as a value. -/
def AggRet (l : List W32) (w : World) (e : Ending) (w' : World) : Prop := e = .returned (.agg (wvs l).toArray) ∧ Kept [] w w'
/-- A row of bytes that comes as a value. -/
def KeyRet (l : List UInt8) (w : World) (e : Ending) (w' : World) : Prop := e = .returned (.agg (bvs l).toArray) ∧ Kept [] w w'
/-- Noughts. -/
def zb (n : Nat) : List Value := bvs (List.replicate n 0)
theorem zb_length (n : Nat) : (zb n).length = n := by simp [zb, bvs]
def u8v (x : UInt8) : Int := (x.toNat : Int)
theorem bits_xorB (x y : UInt8) : bits .xor .u8 (x.toNat : Int) (y.toNat : Int) = ((x ^^^ y).toNat : Int) := by
  rw [UInt8.toNat_xor]; exact u8_xor_nat _ _ (by have := x.toNat_lt; omega) (by have := y.toNat_lt; omega)
theorem bits_orB (x y : UInt8) : bits .or .u8 (x.toNat : Int) (y.toNat : Int) = ((x ||| y).toNat : Int) := by
  rw [UInt8.toNat_or]; exact u8_or_nat _ _ (by have := x.toNat_lt; omega) (by have := y.toNat_lt; omega)

section
variable {P : Program}
theorem run_cut_all (t e : TypeId) (n g off : Nat) (hu : P.underlying t = some (.array n e)) (hs : (P.info? e).map (·.size) = some 1) (hn : 0 < n) (W : World) :
    (Instr.sliceAt t (.pointer (some ⟨g, off, none⟩)) none none none).run P W = .ok (.slice (some ⟨g, off, none⟩) n n) W := by
  cases hq : P.info? e with
  | none => simp [hq] at hs
  | some i =>
    have hi : i.size = 1 := by simpa [hq] using hs
    simp only [Instr.sliceAt, Instr.sureAddr, Sem.run_bind, run_underlying hu, Result.andThen_ok, Sem.run_pure]
    simp [Instr.sliceBounds, sizeOf, typeInfo, hq, hi, show n ≠ 0 by omega, Addr.add_mid]
end
theorem Blk.all {w : World} {g : Nat} {t : TypeId} {bs : List UInt8} (h : Blk w g t (bvs bs)) (n : Nat) (hl : bs.length = n) (hm : n ≤ 1000) : RdB w (some ⟨g, 0, none⟩) n n bs :=
  h.rdb 0 n n bs (by rw [List.drop_zero, List.take_of_length_le (by rw [bvs_length]; omega)]) hl (Nat.le_refl _) (by simp only [maxLen]; omega)
theorem size_of_len {P : Program} {ty : TypeId} {n : Nat} (h : (P.info? ty).map (·.size) = some n) {bs : List UInt8} (hl : bs.length = n) : (P.info? ty).map (·.size) = some (bvs bs).length := by rw [bvs_length, hl]; exact h
theorem zb_len {n : Nat} {bs : List UInt8} (hl : bs.length = n) : (zb n).length = (bvs bs).length := by rw [bvs_length, hl]; simp [zb, bvs]

end Go.Proofs.YtibcjbelcplpjaaDoor
