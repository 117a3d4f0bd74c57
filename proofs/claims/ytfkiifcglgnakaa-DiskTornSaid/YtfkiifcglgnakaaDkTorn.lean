/-
  THE WALK OF "DiskTorn" (UNDER WAY: its check loop's round is too slow in place).
-/
import Derived.Test.YtfkiifcglgnakaaDkTornR
namespace Go.Proofs.Ytfkiifcglgnakaa.disk
open Go.RowKit Go.Maps

/-- The first loop under way: y bytes are filled in. -/
structure Filling (W : World) (X : Nat → Prop) (g p N y : Nat) (wr : World) : Prop where
  held : Held W X wr p (St.new 2000) 0
  own : Own wr (.slice (some ⟨g, 0, none⟩) N N) (oldL y N)

set_option maxRecDepth 100000 in
set_option maxHeartbeats 16000000 in
theorem torn_main (w : World) (N q : Nat) (ab : Option Addr) (lenb capb : Nat) (lb : List Int) (hb : Row w ab lenb capb lb) (a : Option Addr) (len cap : Nat) (keep : List Bool) (h : BRow w a len cap keep) (torn : Int) (hN : N ≤ 600) (hq : q ≤ N) (hlen : len ≤ 60) :
    Calls Try.prog 3 #[.int .i64 (N : Int), .int .i64 (q : Int), .slice ab lenb capb, .slice a len cap, .int .i64 torn] w fun e w' => e = .returned (.bool true) ∧ Below w.heap.size w w' := by
  have HK := Lib.hid h
  have hmost := h.most
  have hbm := hb.most
  have hbl := hb.le
  have HB := Lib.hid (hb.short 400)
  have cS := Lib.hid (fun W => short_any ab lenb capb 400 W hb.le hb.nil (by omega))
  obtain ⟨M, hM⟩ : ∃ M, min lenb 400 = M := ⟨_, rfl⟩
  rw [hM] at HB cS
  have hM1 : M ≤ 400 := by omega
  have hM2 : M ≤ lenb := by omega
  have c1 : ¬ (600 : Int) < (N : Int) := by omega
  have c2 : ¬ (N : Int) < (q : Int) := by omega
  have c3 : ¬ (60 : Int) < (len : Int) := by omega
  clear h hb hM
  go_enter Try.func3, Try.ntmps3
  go_wp2_with fail
  refine (begun_any w).mono ?_
  rintro e w1 ⟨rfl, h1⟩
  have H1 := Lib.hid h1
  clear h1
  go_wp2_with fail
  refine (cS.out w1).mono ?_
  rintro e w2 ⟨rfl, rfl⟩
  go_wp2_with fail
  refine (new_any w1 2000).mono ?_
  rintro e w2 ho
  obtain ⟨p, rfl, h2, _⟩ := held_new (W := w) (X := fun _ => False) (fun _ e => e.elim) H1.out ho
  obtain ⟨w3, r3, o3, b3⟩ := run_make_bytes w2 N (by omega)
  have h3 := h2.mine b3
  have hsz3 := o3.lt (g := w2.heap.size) rfl
  obtain ⟨X, hX⟩ : ∃ X : Nat → Prop, (fun k => False ∨ (w2.heap.size ≤ k ∧ k < w3.heap.size)) = X := ⟨_, rfl⟩
  rw [hX] at h3
  obtain ⟨g, hg⟩ : ∃ g, w2.heap.size = g := ⟨_, rfl⟩
  have hXg : X g := by rw [← hX, ← hg]; exact .inr ⟨Nat.le_refl _, hsz3⟩
  have hgw : w.heap.size ≤ g := by rw [← hg]; exact h2.below.size
  rw [hg] at r3 o3
  have start : Filling w X g p N 0 w3 := ⟨h3, by rw [oldL_zero]; exact o3⟩
  have ST := Lib.hid start
  have HX := Lib.hid hXg
  clear ho h2 o3 b3 h3 hX hg hXg hsz3 start
  go_wp2_with fail
  go_loopw [14] (fun i wr => ∃ y : Nat, y ≤ N ∧ i = .int .i64 (y : Int) ∧ Filling w X g p N y wr) (fun i _ => N - (intOf i).toNat)
  case atStart => exact ⟨0, Nat.zero_le _, rfl, ST.out⟩
  case round =>
    obtain ⟨y, hy, rfl, hF⟩ := hrel
    have HF := Lib.hid hF
    clear hF
    by_cases hlt : y < N
    · have f1 := HF.out.own.free (oldL_length y N) y
      have c1 := HF.out.own.cell (oldL_length y N) y hlt
      go_wp2_with fail
      have nxt : Filling w X g p N (y + 1) (wr.setCell ⟨g, y, none⟩ (.int .u8 ((y : Int) % 7 + 1))) := by
        refine ⟨HF.out.held.store HX.out hgw y _, ?_⟩
        have := HF.out.own.set (oldL_length y N) y ((y % 7 + 1 : Nat) : Int)
        rw [oldL_set y N hlt] at this
        have e : ((y % 7 + 1 : Nat) : Int) = (y : Int) % 7 + 1 := by omega
        rw [e] at this
        exact this
      exact ⟨⟨y + 1, by omega, by go_num, nxt⟩, by simp [intOf]; omega⟩
    · obtain rfl : y = N := by omega
      obtain ⟨old, hold⟩ : ∃ old, oldL y y = old := ⟨_, rfl⟩
      have hol : old.length = y := by rw [← hold]; exact oldL_length y y
      have hob : Byte old := by rw [← hold]; exact oldL_byte y y
      have O0 := Lib.hid HF.out.own
      have H4 := Lib.hid HF.out.held
      rw [hold] at O0
      have HOLD := Lib.hid hold
      clear HF hold
      go_wp2_with fail
      refine (create_any wr p _ 0 H4.out.disk (by omega) ⟨#[97]⟩ (by decide)).mono ?_
      rintro e w5 ⟨b, _, _, _, ho⟩
      rw [aData, One.create aGood] at ho
      obtain ⟨rfl, h5, k5⟩ := H4.out.out ho
      have o5 : Own w5 (.slice (some ⟨g, 0, none⟩) y y) old := row_same O0.out fun g' hg' => k5 g' (by
        obtain rfl : g = g' := Option.some.inj hg'
        exact HX.out)
      have H5 := Lib.hid h5
      have O5 := Lib.hid o5
      clear ho h5 o5 k5
      go_wp2_with fail
      refine (H5.out.write (l := old) O5.out.leads.2 hol hob (by omega) (fun b' off e _ => .inl (by
        obtain ⟨rfl, _⟩ : g = b' ∧ 0 = off := by simpa using e
        exact HX.out)) (by omega) ⟨#[97]⟩ (by decide) ((0 : Nat) : Int)).mono ?_
      rintro e w6 ⟨he, h6, k6⟩
      rw [aData, One.write 0 _ (by decide) (Nat.zero_le _) (by rw [hol]; show ((0 + y : Nat) : Int) ≤ 2000; omega)] at he h6
      subst he
      have o6 : Own w6 (.slice (some ⟨g, 0, none⟩) y y) old := row_same O5.out fun g' hg' => k6 g' (by
        obtain rfl : g = g' := Option.some.inj hg'
        exact HX.out)
      have H6 := Lib.hid h6
      have O6 := Lib.hid o6
      clear h6 o6 k6
      go_wp2_with fail
      refine (syncs_any w6 p _ _ H6.out.disk (by omega) ⟨#[97]⟩ (by decide)).mono ?_
      rintro e w7 ho
      obtain ⟨he, h7, k7⟩ := H6.out.out ho
      have e7 : (FileA.write ⟨[], [], []⟩ 0 old).now = old := by
        have := FileA.write_end ⟨[], [], []⟩ old
        simpa using this
      rw [aData, One.sync (by decide), e7] at he h7
      subst he
      have o7 : Own w7 (.slice (some ⟨g, 0, none⟩) y y) old := row_same O6.out fun g' hg' => k7 g' (by
        obtain rfl : g = g' := Option.some.inj hg'
        exact HX.out)
      have H7 := Lib.hid h7
      have O7 := Lib.hid o7
      clear ho h7 o7 k7 e7
      go_wp2_with fail
      refine (syncdir_any w7 p _ _ H7.out.disk (by omega)).mono ?_
      rintro e w8 ho
      obtain ⟨he, h8, k8⟩ := H7.out.out ho
      rw [One.syncDir (by decide)] at he h8
      subst he
      have o8 : Own w8 (.slice (some ⟨g, 0, none⟩) y y) old := row_same O7.out fun g' hg' => k8 g' (by
        obtain rfl : g = g' := Option.some.inj hg'
        exact HX.out)
      have H8 := Lib.hid h8
      have O8 := Lib.hid o8
      clear ho h8 o8 k8
      go_wp2_with fail
      have hpl : (lb.take 400).length = M := HB.out.length
      refine (H8.out.write (l := lb.take 400) (HB.out.bytes.later H8.out.below) hpl HB.out.byte (by omega) (fun b' off' e hne => .inr (by
        obtain ⟨b2, off2, e2, h2⟩ := HB.out.bytes.lt hne
        rw [e] at e2
        obtain ⟨rfl, _⟩ : b' = b2 ∧ off' = off2 := by simpa using e2
        exact h2)) (by omega) ⟨#[97]⟩ (by decide) (q : Int)).mono ?_
      rintro e w9 ⟨he, h9, k9⟩
      rw [aData, One.write q _ (by decide) (by rw [hol]; exact hq) (by rw [hpl]; show ((q + M : Nat) : Int) ≤ 2000; omega)] at he h9
      subst he
      have o9 : Own w9 (.slice (some ⟨g, 0, none⟩) y y) old := row_same O8.out fun g' hg' => k9 g' (by
        obtain rfl : g = g' := Option.some.inj hg'
        exact HX.out)
      have H9 := Lib.hid h9
      have O9 := Lib.hid o9
      clear h9 o9 k9
      obtain ⟨A, hA⟩ : ∃ A, FileA.write ⟨old, old, []⟩ q (lb.take 400) = A := ⟨_, rfl⟩
      rw [hA] at H9
      have HA := Lib.hid hA
      have hlo : y ≤ A.now.length ∧ A.now.length ≤ 1000 := by
        rw [← hA]
        unfold FileA.write
        by_cases hp : lb.take 400 = []
        · rw [if_pos hp]; show y ≤ old.length ∧ old.length ≤ 1000; omega
        · rw [if_neg hp]
          show y ≤ (laidL old q (lb.take 400)).length ∧ (laidL old q (lb.take 400)).length ≤ 1000
          rw [laidL_length _ _ _ hp]; omega
      obtain ⟨hlo1, hlo2⟩ := hlo
      clear hA
      go_wp2_with fail
      refine (size_any w9 p _ _ H9.out.disk ⟨#[97]⟩ (by decide)).mono ?_
      rintro e w10 ⟨rfl, rfl⟩
      rw [aData, One.size]
      go_wp2_with fail
      refine (read_good w9 p _ _ H9.out.disk ⟨#[97]⟩ (by decide) 0 A.now.length b One.look (by rw [One.file]; omega) (by omega)).mono ?_
      rintro e w10 ho
      obtain ⟨v10, rfl, o10, n10, h10, k10⟩ := H9.out.readMine ho
      rw [One.file] at o10
      have o10' : Own w10 v10 A.now := by
        have : (A.now.drop 0).take A.now.length = A.now := by rw [List.drop_zero, List.take_length]
        rw [← this]; exact o10
      obtain ⟨a10, c10, e10, hc10, hd10, _⟩ := o10'.form
      subst e10
      have og10 : Own w10 (.slice (some ⟨g, 0, none⟩) y y) old := row_same O9.out fun g' hg' => k10 g' (by
        obtain rfl : g = g' := Option.some.inj hg'
        exact HX.out)
      have H10 := Lib.hid h10
      have O10 := Lib.hid o10'
      have OG := Lib.hid og10
      clear ho o10 o10' n10 h10 k10 og10
      go_wp2_with fail
      refine (H10.out.crash (by omega) 0 a len cap keep (HK.out.bools.turned (R := fun _ => False) (Turn.of_below H10.out.below) (fun _ _ _ _ e => e)) torn).mono ?_
      rintro e w11 ⟨p11, S11, rfl, h11, _, hbl11⟩
      have hb11 : Built S11 (fun x => if x = b then A else ⟨[], [], []⟩) keep torn [(aName, b)] := hbl11
      obtain ⟨b11, _, hd11, hf11⟩ := hb11.one
      simp only [if_pos] at hf11
      obtain ⟨L, hL⟩ : ∃ L, leftL A keep torn = L := ⟨_, rfl⟩
      rw [hL] at hf11
      have hn11 : (S11.file b11).now = L := by rw [hf11]
      have hs11 : S11.size aName = (L.length : Int) := by
        unfold St.size
        rw [hd11]
        simp only [hn11]
      obtain ⟨t1, t2, t3⟩ := torn_left old (lb.take 400) q keep torn
      rw [HA.out, hL] at t1 t2 t3
      rw [hol] at t1
      have T3 := Lib.hid t3
      have H11 := Lib.hid h11
      have HD := Lib.hid hd11
      have HNN := Lib.hid hn11
      have HS := Lib.hid hs11
      clear h11 hbl11 hb11 hd11 hf11 hL hn11 hs11 t3
      go_wp2_with fail
      refine (size_any w11 p11 S11 _ H11.out.disk ⟨#[97]⟩ (by decide)).mono ?_
      rintro e w12 ⟨rfl, rfl⟩
      rw [aData, HS.out]
      go_wp2_with fail
      refine (read_good w11 p11 S11 _ H11.out.disk ⟨#[97]⟩ (by decide) 0 L.length b11 HD.out (by rw [HNN.out]; omega) (by omega)).mono ?_
      rintro e w12 ho
      obtain ⟨v12, rfl, o12, n12, h12, k12⟩ := H11.out.read ho
      rw [HNN.out] at o12
      have o12' : Own w12 v12 L := by
        have : (L.drop 0).take L.length = L := by rw [List.drop_zero, List.take_length]
        rw [← this]; exact o12
      obtain ⟨a12, c12, e12, hc12, hd12, _⟩ := o12'.form
      subst e12
      have O12 := Lib.hid o12'
      have B12 := Lib.hid h12.below
      have og12 : Own w12 (.slice (some ⟨g, 0, none⟩) y y) old := OG.out.later h12.below
      have on12 : Own w12 (.slice a10 A.now.length c10) A.now := O10.out.later h12.below
      have OG12 := Lib.hid og12
      have ON12 := Lib.hid on12
      have BW := Lib.hid (H10.out.below.trans (h12.below.mono H10.out.below.size))
      clear ho o12 o12' n12 h12 k12 og12 on12
      have HPL := Lib.hid hpl
      go_wp2_with fail
      obtain ⟨fi, hfi⟩ : ∃ fi, q / 64 = fi := ⟨_, rfl⟩
      have h20 : (q : Int) / 64 = (fi : Int) := by omega
      obtain ⟨lst, hlst⟩ : ∃ lst, ((q : Int) + (M : Int) - 1).tdiv 64 = lst := ⟨_, rfl⟩
      have hlast : 0 < M → lst = (((q + M - 1) / 64 : Nat) : Int) := fun h => by
        rw [← hlst, Int.tdiv_eq_ediv_of_nonneg (by omega)]
        omega
      rw [h20, hlst]
      have HFI := Lib.hid hfi
      have HLST := Lib.hid hlast
      clear hlst hfi hlast h20
      generalize decide ((y : Int) < 0) = bb1
      generalize decide ((q : Int) < 0) = bb2
      generalize decide ((600 : Int) < (y : Int)) = bb3
      generalize (bb1 || bb3) = bb4
      generalize (bb4 || bb2) = bb5
      clear H1 cS HB ST H10 O10 OG H11 HD HNN HS H9 O9 H8 O8 H7 O7 H6 O6 H5 O5 H4 O0
      go_loopw [22] (fun i wr2 => ∃ z : Nat, z ≤ L.length ∧ i = .int .i64 (z : Int) ∧ wr2 = w12) (fun i _ => L.length - (intOf i).toNat)
      case atStart => exact ⟨0, Nat.zero_le _, rfl, rfl⟩
      case round =>
        obtain ⟨z, hz, rfl, hW⟩ := hrel
        subst hW
        by_cases hlt : z < L.length
        · obtain ⟨gx, rfl, cx⟩ := own_at O12.out z hlt
          obtain ⟨gn, rfl, cn⟩ := own_at ON12.out z (by omega)
          have hx := T3.out z (by omega)
          rw [HPL.out, HFI.out] at hx
          refine torn_round _ _ _ _ _ _ _ _ _ _ _ _ _ _ _ _ _ _ _ _ _ _ _ _ _ _ _ _ _ _ _ _ _ _ _ _ _ _ _ _ _ _ _ _ _ _ _ _ _ _ _ _ _ _ _ _ _ _ _ _ _ _ _ _ _ _ _ _ _ _ _ _ _ _ _ _ _ _ _ _ _ _ _ _ _ _ _ _ _ _ _ _ _ _ _ _ _ _ _ _ _ _ _ _ _ _ _ _ _ _ _ _ _ _ _ _ _ _ _ _ _ _ _ _ _ _ _ _ _ _ _ _ _ _ _ _ _ _ _ _ _ _ _ _ _ _ _ _ _ _ _ _ _ _ _ _ _ _ _ _ _ _ _ _ _ _ _ _ _ _ _ _ _ _ _ _ _ _ _ _ _ _ y q M capb len cap A.now.length c10 L.length c12 fi z g gn gx ab a torn lst keep _ _ (old.getD z 0) _ hlt (by omega) hlo2 hlen hM1 (by rw [← HFI.out]; omega) (HK.out.bools.turned (R := fun _ => False) (Turn.of_below BW.out) (fun _ _ _ _ e => e)) cx cn (fun hey => ?_) (fun hey => ?_) HLST.out hx _ ?_
          · obtain ⟨g', eo, co⟩ := own_at OG12.out z (by rw [hol]; exact hey)
            injection eo with eo
            injection eo with eo
            subst eo
            exact co
          · rw [List.getD_eq_getElem?_getD, List.getElem?_eq_none (by omega)]; rfl
          · intro z23 z24 z25 z26 z27 z123 z124 z125 z126 z127 z128 z129 z130 z131 z132 z133 z134 z135 z136 z137 z138 z139 z140 z141 z142 z143 z144 z145 z146 z147 z148 z149 z150 z151 z152 z153 z154 z155 z156 z157 z158 z159 z160 z161 z162 z163 z164 z165 z166 z167 z168 z169 z170 z171 z172 z173 z174 z175 z176 z177 z178 z179 z180 z181 z182 z183 z184 z185 z186 z187 z188 z189 z190 z191 z192
            go_roundw
            case rel => exact ⟨_, _, _, _, _, _, _, _, _, _, _, _, _, _, _, _, _, _, _, _, _, _, _, _, _, _, _, _, _, _, _, _, _, _, _, _, _, _, _, _, _, _, _, _, _, _, _, _, _, _, _, _, _, _, _, _, _, _, _, _, _, _, _, _, _, _, _, _, _, _, _, _, _, _, _, _, _, ⟨z + 1, by omega, by go_num, rfl⟩, rfl⟩
            case measure => simp [intOf]; omega
        · obtain rfl : z = L.length := by omega
          go_wp2_with fail
          go_ret
          exact ⟨rfl, BW.out⟩
end Go.Proofs.Ytfkiifcglgnakaa.disk
