/-
  CONTRACT of mac.keyed: the digest of a padded block with a text behind it.
-/
import Derived.Test.YtchbfcegonlhoaaDoorMacMath
import Derived.Test.YtchbfcegonlhoaaDoorShaTwoParts
import Derived.Test.YtchbfcegonlhoaaDoorRefQuick
namespace Go.Proofs.YtchbfcegonlhoaaDoor.sha
open Go.RowKit

theorem past_new {w : World} {a : Option Addr} {l : List Int} (h : Leads w a l) {g : Nat} (hg : w.heap.size ≤ g) : Past g a l := by
  by_cases hl : l = []
  · exact .inl hl
  · obtain ⟨b, off, rfl, hb⟩ := h.lt hl
    exact .inr (fun b' off' e => by injection e with e; injection e with e; omega)

set_option maxRecDepth 100000 in
set_option maxHeartbeats 1000000 in
theorem keyed_any (L : List Int) (hL : L.length = 64) (hLy : Byte L) (p : Int) (hp : 0 ≤ p ∧ p < 256) (a : Option Addr) (l : List Int) (len cap : Nat) (w : World) (hT : Tab w) (hl : Leads w a l) (hy : Byte l) (hn : l.length = len) (hlc : len ≤ cap) (hcap : cap ≤ 9223372036854775807) (hlen : len ≤ 100000) :
    Calls Tryd.prog 25 #[.agg (u8s L).toArray, .int .u8 p, .slice a len cap] w fun e w' => e = .returned (.agg (u8s (digest (xored L p ++ l))).toArray) ∧ Below w.heap.size w w' := by
  have HT := Lib.hid hT
  have HLD := Lib.hid hl
  have HY := Lib.hid hy
  have HN := Lib.hid hn
  have HLL := Lib.hid hL
  have HLY := Lib.hid hLy
  have hz := zero32
  have htl := hT.lt
  clear hT hl hy hn hL hLy
  go_enter Tryd.func25, Tryd.ntmps25
  go_wp2_with fail
  go_loopw [7, 9] (fun _ i wr => ∃ k : Nat, k ≤ 64 ∧ i = .int .i64 k ∧ Whole wr w.heap.size 48 (u8s (partly L p k)) ∧ Whole wr (w.heap.size + 1) 25 (u8s z32) ∧ Below w.heap.size w wr) (fun _ i _ => 64 - (intOf i).toNat)
  case atStart => exact ⟨0, by omega, rfl, by rw [partly_zero]; exact (Whole.new_ rfl rfl).more _, Whole.new_ (by simp) rfl, ((Below.refl _ _).alloc (Nat.le_refl _) _).alloc (by simp) _⟩
  case round =>
    obtain ⟨k, hk, rfl, h1, h2, hbel⟩ := hrel
    clear hz
    by_cases hlt : k < 64
    · have hc : wr.cell? ⟨w.heap.size, k, none⟩ = _ := (h1.at_ _).trans (u8s_at _ (by rw [partly_length p HLL.out (by omega)]; exact hlt))
      rw [partly_at p (by rw [HLL.out]; exact hlt)] at hc
      have hf := h1.free k
      have hset := partly_set (L := L) (k := k) p (by rw [HLL.out]; exact hlt)
      have hby := HLY.out.at (i := k) (by rw [HLL.out]; exact hlt)
      have hx : bits .xor .u8 (L.getD k 0) p = xb (L.getD k 0) p := rfl
      have kk := h1.put k (.int .u8 (xb (L.getD k 0) p))
      rw [show (u8s (partly L p k)).set k (.int .u8 (xb (L.getD k 0) p)) = u8s ((partly L p k).set k (xb (L.getD k 0) p)) by simp [u8s, List.map_set], hset] at kk
      generalize xb (L.getD k 0) p = z at hx kk
      generalize L.getD k 0 = y at hc hx hby
      have KK := Lib.hid kk
      have H2 := Lib.hid h2
      have HBel := Lib.hid hbel
      clear h1 h2 hbel hset kk
      go_wp2_with fail
      exact ⟨⟨k + 1, by omega, by go_num, KK.out, H2.out.apart (by show w.heap.size + 1 ≠ w.heap.size; omega) _, HBel.out.setCell (Nat.le_refl _) _⟩, by simp [intOf]; omega⟩
    · obtain rfl : k = 64 := by omega
      rw [partly_full p HLL.out] at h1
      have hxl : (xored L p).length = 64 := by rw [xored_length, HLL.out]
      have H1 := Lib.hid h1
      have H2 := Lib.hid h2
      have HBel := Lib.hid hbel
      have HXL := Lib.hid hxl
      have HXY := Lib.hid (xored_byte HLY.out hp)
      have hwr := h2.lt
      have hbs := hbel.size
      clear h1 h2 hbel hxl
      go_wp2_with fail
      refine (new_any _).mono ?_
      rintro e w2 ⟨rfl, i2, h3⟩
      have kb2 := HBel.out.trans (h3.mono HBel.out.size)
      have k2 := H1.out.kept h3
      have o2 := H2.out.kept h3
      have KB2 := Lib.hid kb2
      have K2 := Lib.hid k2
      have O2 := Lib.hid o2
      have I2 := Lib.hid i2
      clear kb2 k2 o2 i2 h3
      go_wp2_with fail
      refine (write_any wr.heap.size [] (some ⟨w.heap.size, 0, none⟩) (xored L p) 64 64 w2 (HT.out.later KB2.out) (by omega) I2.out (Leads.of_whole (o := 0) (n := 64) K2.out (by rw [List.drop_zero, List.take_of_length_le (by rw [u8s_length, HXL.out]; exact Nat.le_refl _)])) (.inr (fun b off e => by injection e with e; injection e with e; omega)) HXY.out HXL.out (Nat.le_refl _) (by omega) (by simp)).mono ?_
      rintro e w3 ⟨rfl, i3, g3⟩
      rw [List.nil_append] at i3
      have kb3 := below_only KB2.out g3 hbs KB2.out.size
      have o3 := O2.out.grown g3 (by intro e; injection e with e; omega)
      have KB3 := Lib.hid kb3
      have O3 := Lib.hid o3
      have I3 := Lib.hid i3
      clear kb3 o3 i3 g3 K2 O2 I2
      go_wp2_with fail
      refine (write_any wr.heap.size (xored L p) a l len cap w3 (HT.out.later KB3.out) (by omega) I3.out (HLD.out.later KB3.out) (past_new HLD.out hbs) HY.out HN.out hlc hcap (by rw [HXL.out]; omega)).mono ?_
      rintro e w4 ⟨rfl, i4, g4⟩
      have kb4 := below_only KB3.out g4 hbs KB3.out.size
      have o4 := O3.out.grown g4 (by intro e; injection e with e; omega)
      have KB4 := Lib.hid kb4
      have O4 := Lib.hid o4
      have I4 := Lib.hid i4
      clear kb4 o4 i4 g4 O3 I3
      go_wp2_with fail
      refine (hsum_any wr.heap.size (xored L p ++ l) w4 (HT.out.later KB4.out) I4.out (by rw [List.length_append, HXL.out, HN.out]; omega)).mono ?_
      rintro e w5 ⟨rfl, h5⟩
      obtain ⟨T, hT⟩ : ∃ T, xored L p ++ l = T := ⟨_, rfl⟩
      rw [hT]
      have HDL := Lib.hid (digest_length T)
      have hi32 : (Tryd.prog.info? 25).map (·.size) = some (u8s (digest T)).toArray.size := by rw [u8s_size, HDL.out]; exact info32
      have HI32 := Lib.hid hi32
      have k4 : Whole w5 (w.heap.size + 1) 25 (u8s z32) := O4.out.kept h5
      have kb5 := KB4.out.trans (h5.mono KB4.out.size)
      have hth : w5.there (w.heap.size + 1) 0 (u8s (digest T)).toArray.size := k4.there _ _ (by rw [u8s_size, HDL.out]; exact Nat.le_refl 32)
      have k5 := k4.lay (u8s (digest T)) 0 (by rw [u8s_length, HDL.out]; exact Nat.le_refl 32)
      rw [lay_all _ _ (by rw [u8s_length, u8s_length, HDL.out]; rfl)] at k5
      have kb6 := below_lay (u8s (digest T)) (w.heap.size + 1) 0 kb5 (by omega)
      have HTH := Lib.hid hth
      have K5 := Lib.hid k5
      have KB5 := Lib.hid kb6
      have HTT := Lib.hid hT
      clear h5 k4 kb5 hth k5 kb6 hi32 hT
      go_wp2_with (first
        | (refine wpList_store_mid rfl 25 (.tmp 6) (.tmp 27) rfl (w.heap.size + 1) 0 (u8s (digest T)).toArray rfl rfl HTH.out HI32.out (u8s_one _) ?_)
        | fail)
      exact bodyPost_ret (results_cell_row rfl _ _ (w.heap.size + 1) 25 (u8s (digest T)).toArray (0, 0) _ rfl K5.out Tryd.underlying25 rfl HI32.out) rfl ⟨by rw [HTT.out], KB5.out⟩
end Go.Proofs.YtchbfcegonlhoaaDoor.sha
