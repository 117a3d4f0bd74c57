/-
  THE REFERENCE's "Digest": its constants are the roots of primes; so it is the digest.
-/
import Derived.Test.YtchbfcegonlhoaaDoorRefQuick
import Derived.Test.YtchbfcegonlhoaaDoorRefRoot
import Derived.Test.YtchbfcegonlhoaaDoorRefNums
import Derived.Test.YtchbfcegonlhoaaDoorRefFirst
namespace Go.Proofs.YtchbfcegonlhoaaDoor.sha
open Go.RowKit

/-- The first k words, and noughts behind them, N in all. -/
def takenW (L : List (BitVec 32)) (N k : Nat) : List (BitVec 32) := L.take k ++ List.replicate (N - k) 0
theorem takenW_length {L : List (BitVec 32)} {N k : Nat} (hL : L.length = N) (hk : k ≤ N) : (takenW L N k).length = N := by simp [takenW]; omega
theorem takenW_set {L : List (BitVec 32)} {N k : Nat} (hL : L.length = N) (hk : k < N) : (takenW L N k).set k (L.getD k 0) = takenW L N (k + 1) := by
  unfold takenW
  have h1 : (L.take k).length = k := by rw [List.length_take]; omega
  rw [List.set_append_right _ _ (by omega), h1, Nat.sub_self, show N - k = (N - (k + 1)) + 1 by omega, List.replicate_succ, List.set_cons_zero, List.take_succ_eq_append_getElem (by omega), List.append_assoc, List.getD_eq_getElem?_getD, List.getElem?_eq_getElem (by omega)]
  rfl
theorem takenW_full {L : List (BitVec 32)} {N : Nat} (hL : L.length = N) : takenW L N N = L := by simp [takenW, ← hL]
theorem takenW_zero (L : List (BitVec 32)) (N : Nat) : takenW L N 0 = List.replicate N 0 := by simp [takenW]

set_option maxRecDepth 100000 in
set_option maxHeartbeats 1000000 in
theorem rDigest_any (a : Option Addr) (t : List Int) (n cap : Nat) (w : World) (hL : Leads w a t) (hy : Byte t) (hn : t.length = n) (ha : a = none → cap = 0) (hn1 : n ≤ 10000) :
    Calls Tryd.prog 11 #[.slice a n cap] w fun e w' => e = .returned (.agg (u8s (digest t)).toArray) ∧ Below w.heap.size w w' := by
  have HL := Lib.hid hL
  have HY := Lib.hid hy
  have HN := Lib.hid hn
  have hz := zero32
  clear hL hy hn
  go_enter Tryd.func11, Tryd.ntmps11
  go_wp2_with fail
  refine (first_any _).mono ?_
  rintro e w1 ⟨⟨v, rfl, own1⟩, bel1⟩
  obtain ⟨A, cA, hv, _, _, f3, _, f5⟩ := own1.form
  obtain ⟨g, rfl, g1, g2, g3⟩ := f5.resolve_left (fun e => by have := (f3 e).1; rw [prs_len] at this; omega)
  rw [prs_len] at hv
  subst hv
  have b0 : Below w.heap.size w (w.alloc (.cells (u8s z32).toArray 25)) := (Below.refl _ _).alloc (Nat.le_refl _) _
  have e0 : (w.alloc (.cells (u8s z32).toArray 25)).heap.size = w.heap.size + 1 := by simp
  have bw1 : Below w.heap.size w w1 := b0.trans (bel1.mono (by omega))
  have o1 : Whole w1 w.heap.size 25 (u8s z32) := (Whole.new_ rfl rfl).kept bel1
  have s1 : w.heap.size + 1 ≤ w1.heap.size := by have := bel1.size; omega
  have OWN := Lib.hid own1
  have BW1 := Lib.hid bw1
  have O1 := Lib.hid o1
  have HC := Lib.hid cubes_at
  have HS := Lib.hid squares_at
  have HP := Lib.hid prs_small
  have hzw := zero64w
  have hz8 := zero8w
  clear own1 bw1 o1 f3 bel1 b0 hz
  go_wp2_with fail
  clear hzw hz8
  go_loopw [6] (fun i wr => ∃ k : Nat, k ≤ 64 ∧ i = .int .i64 k ∧ Whole wr w1.heap.size 44 (u32s (takenW roundWords 64 k)) ∧ Whole wr (w1.heap.size + 1) 45 (u32s (takenW init.list 8 (min k 8))) ∧ Below w1.heap.size w1 wr) (fun i _ => 64 - (intOf i).toNat)
  case atStart => exact ⟨0, by omega, rfl, (Whole.new_ (l := u32s z64w) rfl rfl).more _, Whole.new_ (l := u32s z8w) (by simp) rfl, ((Below.refl _ _).alloc (Nat.le_refl _) _).alloc (by simp) _⟩
  case round =>
    obtain ⟨k, hk, rfl, h1, h2, hbel⟩ := hrel
    by_cases hlt : k < 64
    · have hp := HP.out ⟨k, hlt⟩
      have hc := HC.out k hlt
      have cp : wr.cell? ⟨g, k, none⟩ = _ := (OWN.out.later hbel).cell prs_len k hlt
      obtain ⟨p, hp1⟩ : ∃ p : Nat, (prs 312).getD k 0 = (p : Int) := ⟨((prs 312).getD k 0).toNat, by have := hp.1; simp only at this; omega⟩
      have hs := HS.out k
      simp only [hp1] at hp hc cp hs
      rw [Int.toNat_natCast] at hc hs
      have hset := takenW_set (L := roundWords) (N := 64) rfl hlt
      have hb1 := hbel.size
      have H1 := Lib.hid h1
      have H2 := Lib.hid h2
      have HBel := Lib.hid hbel
      have HSET := Lib.hid hset
      have HCU := Lib.hid hc
      have HSQ := Lib.hid hs
      have hp0 : 0 < p := by omega
      have hp6 : p < 65536 := by omega
      clear hset h1 h2 hbel hc hs hp
      go_wp2_with fail
      refine (root_any p 3 hp6 hp0 (by omega) wr).mono ?_
      rintro e w2 ⟨rfl, b2⟩
      rw [HCU.out]
      have k2 : Whole w2 w1.heap.size 44 (u32s (takenW roundWords 64 k)) := H1.out.kept b2
      have l2 : Whole w2 (w1.heap.size + 1) 45 (u32s (takenW init.list 8 (min k 8))) := H2.out.kept b2
      have bb2 : Below w1.heap.size w1 w2 := HBel.out.trans (b2.mono hb1)
      have ck : w2.cell? ⟨w1.heap.size, k, none⟩ = _ := (k2.at_ _).trans (u32s_at _ (by rw [takenW_length (N := 64) rfl (by omega)]; exact hlt))
      have fk := k2.free k
      generalize W ((takenW roundWords 64 k).getD k 0) = z at ck
      have kk := k2.put k (.int .u32 (W (roundWords.getD k 0)))
      rw [u32s_set, HSET.out] at kk
      have bb3 := bb2.setCell (p := ⟨w1.heap.size, k, none⟩) (Nat.le_refl _) (.int .u32 (W (roundWords.getD k 0)))
      have l3 := l2.apart (p := ⟨w1.heap.size, k, none⟩) (by show w1.heap.size + 1 ≠ w1.heap.size; omega) (.int .u32 (W (roundWords.getD k 0)))
      generalize W (roundWords.getD k 0) = y at kk bb3 l3
      have KK := Lib.hid kk
      have L3 := Lib.hid l3
      have BB3 := Lib.hid bb3
      clear k2 l2 bb2 kk l3 bb3 b2
      by_cases hk8 : k < 8
      · have cp3 : (w2.setCell ⟨w1.heap.size, k, none⟩ (.int .u32 y)).cell? ⟨g, k, none⟩ = _ := (OWN.out.later BB3.out).cell prs_len k hlt
        simp only [hp1] at cp3
        go_wp2_with fail
        refine (root_any p 2 hp6 hp0 (by omega) _).mono ?_
        rintro e w3 ⟨rfl, b3⟩
        rw [HSQ.out hk8]
        have m3 : Whole w3 w1.heap.size 44 (u32s (takenW roundWords 64 (k + 1))) := KK.out.kept b3
        have hmin : min k 8 = k := by omega
        have n3 := L3.out
        rw [hmin] at n3
        have n3 : Whole w3 (w1.heap.size + 1) 45 (u32s (takenW init.list 8 k)) := n3.kept b3
        have bb4 : Below w1.heap.size w1 w3 := BB3.out.trans (b3.mono BB3.out.size)
        have ch : w3.cell? ⟨w1.heap.size + 1, k, none⟩ = _ := (n3.at_ _).trans (u32s_at _ (by rw [takenW_length (N := 8) rfl (by omega)]; exact hk8))
        have fh := n3.free k
        generalize W ((takenW init.list 8 k).getD k 0) = z2 at ch
        have kk := n3.put k (.int .u32 (W (init.list.getD k 0)))
        rw [u32s_set, takenW_set (L := init.list) (N := 8) rfl hk8] at kk
        have mm := m3.apart (p := ⟨w1.heap.size + 1, k, none⟩) (by show w1.heap.size ≠ w1.heap.size + 1; omega) (.int .u32 (W (init.list.getD k 0)))
        have bb5 := bb4.setCell (p := ⟨w1.heap.size + 1, k, none⟩) (by show w1.heap.size ≤ w1.heap.size + 1; omega) (.int .u32 (W (init.list.getD k 0)))
        generalize W (init.list.getD k 0) = y2 at kk mm bb5
        have KK2 := Lib.hid kk
        have MM2 := Lib.hid mm
        have BB5 := Lib.hid bb5
        clear m3 n3 bb4 kk mm bb5 b3
        go_wp2_with fail
        exact ⟨⟨k + 1, by omega, by go_num, MM2.out, by rw [show min (k + 1) 8 = k + 1 by omega]; exact KK2.out, BB5.out⟩, by simp [intOf]; omega⟩
      · go_wp2_with fail
        exact ⟨⟨k + 1, by omega, by go_num, KK.out, by rw [show min (k + 1) 8 = min k 8 by omega]; exact L3.out, BB3.out⟩, by simp [intOf]; omega⟩
    · obtain rfl : k = 64 := by omega
      rw [takenW_full (L := roundWords) (N := 64) rfl] at h1
      rw [show min 64 8 = 8 from rfl, takenW_full (L := init.list) (N := 8) rfl] at h2
      have bw2 : Below w.heap.size w wr := BW1.out.trans (hbel.mono (by omega))
      have o2 : Whole wr w.heap.size 25 (u8s z32) := O1.out.keep hbel (by omega)
      have HI64 := Lib.hid (show (Tryd.prog.info? 44).map (·.size) = some (u32s roundWords).toArray.size by rw [u32s_size]; exact info64)
      have HI8 := Lib.hid (show (Tryd.prog.info? 45).map (·.size) = some (u32s init.list).toArray.size by rw [u32s_size]; exact info8)
      have H1 := Lib.hid h1
      have H2 := Lib.hid h2
      have BW2 := Lib.hid bw2
      have O2 := Lib.hid o2
      clear h1 h2 bw2 o2 hbel OWN BW1 O1
      go_wp2_with (first
        | ((with_reducible show wpList _ _ _ _ _ _); refine wpList_load_row rfl 44 (.tmp 4) rfl w1.heap.size rfl 44 (u32s roundWords).toArray (0, 0) _ (by exact H1.out) Tryd.underlying44 rfl HI64.out ?_)
        | ((with_reducible show wpList _ _ _ _ _ _); refine wpList_load_row rfl 45 (.tmp 5) rfl (w1.heap.size + 1) rfl 45 (u32s init.list).toArray (0, 0) _ (by exact H2.out) Tryd.underlying45 rfl HI8.out ?_)
        | fail)
      refine (rdig_any a t n cap roundWords init wr (HL.out.later BW2.out) HY.out HN.out rfl ha hn1).mono ?_
      rintro e w4 ⟨rfl, h5⟩
      rw [stG_at]
      have hdg : out (stAt (padded t) ((padded t).length / 64)) = digest t := rfl
      rw [hdg]
      have HDL := Lib.hid (digest_length t)
      have hi32 : (Tryd.prog.info? 25).map (·.size) = some (u8s (digest t)).toArray.size := by rw [u8s_size, HDL.out]; exact info32
      have HI32 := Lib.hid hi32
      have k4 : Whole w4 w.heap.size 25 (u8s z32) := Whole.kept O2.out h5
      have kb4 := BW2.out.trans (h5.mono BW2.out.size)
      have hth : w4.there w.heap.size 0 (u8s (digest t)).toArray.size := k4.there _ _ (by rw [u8s_size, HDL.out]; exact Nat.le_refl 32)
      have k5 := k4.lay (u8s (digest t)) 0 (by rw [u8s_length, HDL.out]; exact Nat.le_refl 32)
      rw [lay_all _ _ (by rw [u8s_length, u8s_length, HDL.out]; rfl)] at k5
      have kb5 := below_lay (u8s (digest t)) w.heap.size 0 kb4 (Nat.le_refl _)
      have HTH := Lib.hid hth
      have K5 := Lib.hid k5
      have KB5 := Lib.hid kb5
      clear h5 k4 kb4 hth k5 kb5 hi32 hdg
      go_wp2_with (first
        | (refine wpList_store_mid rfl 25 (.tmp 2) (.tmp 31) rfl w.heap.size 0 (u8s (digest t)).toArray rfl rfl HTH.out HI32.out (u8s_one _) ?_)
        | fail)
      exact bodyPost_ret (results_cell_row rfl _ _ w.heap.size 25 (u8s (digest t)).toArray (0, 0) _ rfl K5.out Tryd.underlying25 rfl HI32.out) rfl ⟨rfl, KB5.out⟩
end Go.Proofs.YtchbfcegonlhoaaDoor.sha
