/-
  CONTRACTS of the reference's Eq, EqAll: what is the same is told so.
-/
import Derived.Test.YtodajceiadbpeaaDoorScFind
import Derived.StillTailTactics
namespace Go.Proofs.YtodajceiadbpeaaDoor.scan
open Go.RowKit Go.Proofs.YtodajceiadbpeaaDoor.disk Go.Proofs.YtodajceiadbpeaaDoor.recd
set_option linter.unusedVariables false

theorem eq_same (r : Rec) (w : World) (hf : r.body.size ≤ maxLen) : Calls Tryd.prog 17 #[r.val, r.val] w fun e w' => e = .returned (.bool true) ∧ Below w.heap.size w w' := by
  obtain ⟨k, t, e, o, s, b⟩ := r
  unfold Rec.val
  simp only
  go_enter Tryd.func17, Tryd.ntmps17
  go_wp2
  go_ret
  exact ⟨rfl, ((Below.refl _ _).alloc (Nat.le_refl _) _).alloc (by simp) _⟩

/-- A find's cells in a row. -/
theorem fd_cells {w : World} {g n cap : Nat} {F : Form Fd} (hF : F.sz = 7) (hc : F.cells = Fd.cells) {fs : List Fd} (h : OwnS F w (.slice (some ⟨g, 0, none⟩) n cap) fs) (q : Nat) (hq : q < fs.length) (fa : Nat) (k : Int) (t e o s : Nat) (b : ByteArray) (hx : fs[q] = ⟨fa, ⟨k, t, e, o, s, b⟩⟩) :
    w.cell? ⟨g, q * 7, none⟩ = some (.int .i64 (fa : Int)) ∧ w.cell? ⟨g, q * 7 + 1, none⟩ = some (.int .i64 k) ∧ w.cell? ⟨g, q * 7 + 2, none⟩ = some (.int .u32 (t : Int)) ∧ w.cell? ⟨g, q * 7 + 3, none⟩ = some (.int .u64 (e : Int)) ∧ w.cell? ⟨g, q * 7 + 4, none⟩ = some (.int .u64 (o : Int)) ∧ w.cell? ⟨g, q * 7 + 5, none⟩ = some (.int .u64 (s : Int)) ∧ w.cell? ⟨g, q * 7 + 6, none⟩ = some (.string b) := by
  have hrg := h.range q hq
  rw [hx, hF, hc] at hrg
  exact ⟨hrg 0 _ rfl, hrg 1 _ rfl, hrg 2 _ rfl, hrg 3 _ rfl, hrg 4 _ rfl, hrg 5 _ rfl, hrg 6 _ rfl⟩

set_option maxRecDepth 100000 in
set_option maxHeartbeats 2000000 in
theorem EqAll_any (v u : Value) (fs : List Fd) (w : World) (hv : OwnS fR w v fs) (hu : OwnS fR w u fs) (hb : ∀ x ∈ fs, x.r.body.size ≤ 1000) :
    Calls Tryd.prog 13 #[v, u] w fun e w' => e = .returned (.bool true) ∧ Below w.heap.size w w' := by
  obtain ⟨n, hfn⟩ : ∃ n, fs.length = n := ⟨_, rfl⟩
  have key : ∀ v, OwnS fR w v fs → ∃ ao cap, v = .slice ao n cap ∧ n ≤ cap ∧ cap ≤ 9223372036854775807 := by
    intro v hv
    rcases hv.form with ⟨rfl, rfl⟩ | ⟨g, cap, rfl, h1, h2, _⟩
    · exact ⟨none, 0, by rw [← hfn]; rfl, by rw [← hfn]; exact Nat.zero_le _, by omega⟩
    · exact ⟨some ⟨g, 0, none⟩, cap, by rw [← hfn], by omega, h2⟩
  obtain ⟨ao, cap, rfl, hle, hcm⟩ := key v hv
  obtain ⟨bo, dap, rfl, hle2, hcm2⟩ := key u hu
  have hn : n ≤ 9223372036854775807 := by omega
  have HV := Lib.hid hv
  have HU := Lib.hid hu
  have HF := Lib.hid hfn
  have HB := Lib.hid hb
  clear hv hu hfn hb key
  go_enter Tryd.func13, Tryd.ntmps13
  go_wp2_with fail
  go_loopw [5] (fun p wr => ∃ (q : Nat), p = .int .i64 (q : Int) ∧ q ≤ n ∧ Below w.heap.size w wr) (fun p _ => ((n : Int) - intOf p).toNat)
  case atStart => exact ⟨0, rfl, Nat.zero_le _, Below.refl _ _⟩
  case round =>
    obtain ⟨q, rfl, hq, hg⟩ := hrel
    by_cases hqn : q < n
    · have hqI : (q : Int) < (n : Int) := by omega
      have hql : q < fs.length := by rw [HF.out]; exact hqn
      have nz : ∀ (v : Option Addr) (c : Nat), OwnS fR w (.slice v n c) fs → ∃ g, v = some ⟨g, 0, none⟩ := by
        intro v c h
        rcases h.form with ⟨e, rfl⟩ | ⟨g, cap, e, _⟩
        · simp at hql
        · injection e with e1; exact ⟨g, e1⟩
      obtain ⟨g, rfl⟩ := nz _ _ HV.out
      obtain ⟨d, rfl⟩ := nz _ _ HU.out
      obtain ⟨⟨fa, ⟨k, t, e, o, s, b⟩⟩, hx⟩ : ∃ x, fs[q] = x := ⟨_, rfl⟩
      obtain ⟨c0, c1, c2, c3, c4, c5, c6⟩ := fd_cells rfl rfl (HV.out.later hg) q hql fa k t e o s b hx
      obtain ⟨d0, d1, d2, d3, d4, d5, d6⟩ := fd_cells rfl rfl (HU.out.later hg) q hql fa k t e o s b hx
      have hbs : b.size ≤ 1000 := by have := HB.out _ (List.getElem_mem hql); rw [hx] at this; exact this
      have cq := (fun W => eq_same ⟨k, t, e, o, s, b⟩ W (by show b.size ≤ _; unfold maxLen; omega))
      unfold Rec.val at cq
      simp only at cq
      have CQ := Lib.hid cq
      have HG := Lib.hid hg
      clear cq hg nz hx hql HV HU HF HB
      go_wp2_with fail
      go_still_tail 22, (by kernel_rfl)
      have hgd := below_draws HG.out 1
      change wpList _ _ _ _ _ (wr.drewN 1)
      obtain ⟨w2, hw2⟩ : ∃ w2, wr.drewN 1 = w2 := ⟨_, rfl⟩
      rw [hw2] at hgd ⊢
      have HG2 := Lib.hid hgd
      clear hgd hw2 c0 c1 c2 c3 c4 c5 c6 d0 d1 d2 d3 d4 d5 d6 HG
      go_wp2_with fail
      refine (CQ.out _).mono ?_
      rintro en w3 ⟨rfl, b3⟩
      have B3 := Lib.hid (HG2.out.trans (b3.mono HG2.out.size))
      clear b3 HG2 CQ
      go_wp2_with fail
      refine ⟨⟨q + 1, by rw [Int.natCast_add]; rfl, by omega, B3.out⟩, ?_⟩
      show ((n : Int) - ((q : Int) + 1)).toNat < ((n : Int) - (q : Int)).toNat
      omega
    · have HG := Lib.hid hg
      clear hg
      have hqI : ¬ (q : Int) < (n : Int) := by omega
      go_wp2_with fail
      go_ret
      exact ⟨rfl, HG.out⟩
end Go.Proofs.YtodajceiadbpeaaDoor.scan
