/- The document's Necks (package fairref1): of each flow the narrow place. -/
import Derived.Test.YtdegbfgnbobgoacDoorRNeckA
import Derived.Test.YtdegbfgnbobgoacDoorRLoadB
namespace Go.Proofs.YtdegbfgnbobgoacDoor
namespace Fl
open Go.RowKit Fr Ns Ld
set_option linter.unusedSimpArgs false
set_option linter.unusedVariables false

theorem find_take_succ {α : Type} (p : List α) (g : α → Bool) (i : Nat) (h : i < p.length) (d : α) (hn : (p.take i).find? g = none) : (p.take (i + 1)).find? g = if g (p.getD i d) then some (p.getD i d) else none := by
  rw [take_snoc p i h d, List.find?_append, hn]
  simp only [Option.none_or, List.find?_cons, List.find?_nil]
  split <;> simp_all
theorem find_take_some {α : Type} (p : List α) (g : α → Bool) (i : Nat) {z : α} (h : (p.take i).find? g = some z) : p.find? g = some z := by
  have : p = p.take i ++ p.drop i := (List.take_append_drop _ _).symm
  rw [this, List.find?_append, h]
  rfl
theorem all_take (p : List Int) (g : Int → Bool) (i : Nat) (h : i < p.length) : (p.take (i + 1)).all g = ((p.take i).all g && g (p.getD i 0)) := by
  rw [take_snoc p i h 0, List.all_append]
  simp
theorem all_of_take {p : List Int} {g : Int → Bool} {i : Nat} (h : (p.take i).all g = false) : p.all g = false := by
  have : p = p.take i ++ p.drop i := (List.take_append_drop _ _).symm
  rw [this, List.all_append, h]
  rfl
theorem take_getD_succ (l : List Int) (k : Nat) (h : k < l.length) : (l.take (k + 1)).map (Value.int .i64) = (l.take k).map (Value.int .i64) ++ [.int .i64 (l.getD k 0)] := by
  rw [take_snoc l k h 0, List.map_append]
  rfl

set_option maxRecDepth 100000 in
set_option maxHeartbeats 8000000 in
theorem RNecks_any {Q : Nat → Prop} (caps : List Int) (paths : List (List Int)) (r : List (Int × Int)) (v x : Value) (w : World) (h : NetAt Q w v caps paths) (hx : FracsAt Q w x r) :
    Calls Tryd.prog 9 #[v, x] w fun e w' => ∃ y, e = .returned (.tuple #[y, .int .i64 (loadE caps paths r)]) ∧ IntsAt (fun b => w.heap.size ≤ b) w' y (okL (loadE caps paths r) (necksL caps paths r)) ∧ Below w.heap.size w w' := by
  have HL : Hid (∀ u, Below w.heap.size w u → Calls Tryd.prog 4 #[v, x] u fun e w' => ∃ y, e = .returned (.tuple #[y, .int .i64 (loadE caps paths r)]) ∧ FracsAt (fun b => u.heap.size ≤ b) w' y (okL (loadE caps paths r) (loadL paths r caps.length)) ∧ Below u.heap.size u w') := fun u hu => RLoad_any caps paths r v x u (h.later hu) (hx.later hu)
  have HV : Hid (NetAt Q w v caps paths) := h
  have HX : Hid (FracsAt Q w x r) := hx
  obtain ⟨v1, v2, rfl, h1, h2⟩ := h
  have HPp : Hid (∀ i, i < paths.length → ∃ b off, ∃ cap, ∃ x, v2 = .slice (some ⟨b, off, none⟩) paths.length cap ∧ ∀ u, Below w.heap.size w u → u.cell? ⟨b, off + i, none⟩ = some x ∧ IntsAt Q u x (paths.getD i [])) := by
    intro i hi
    obtain ⟨a, cap, e, _, hc⟩ := h2
    rcases hc with rfl | ⟨b, off, rfl, hc, _⟩
    · simp at hi
    · obtain ⟨x, hx, hxi⟩ := hc i hi
      exact ⟨b, off, cap, x, e, fun u hu => ⟨cell_later hu hx, hxi.later hu⟩⟩
  obtain ⟨a1, cap1, rfl, ⟨hm1, hn1⟩, _⟩ := h1
  obtain ⟨a2, cap2, rfl, ⟨hm2, hn2⟩, _⟩ := h2
  obtain ⟨ar, capr, rfl, ⟨hm3, hn3⟩, _⟩ := hx
  have HBW : Hid (∀ u, Below (w.heap.size + 1) (w.alloc (.cells #[.slice a1 caps.length cap1, .slice a2 paths.length cap2] 25)) u → Below w.heap.size w u) := fun u hu => ((Below.refl _ _).alloc (Nat.le_refl _) _).trans (hu.mono (by omega))
  have HCW : Hid (∀ u, Below (w.heap.size + 1) (w.alloc (.cells #[.slice a1 caps.length cap1, .slice a2 paths.length cap2] 25)) u → u.cell? ⟨w.heap.size, 0, none⟩ = some (.slice a1 caps.length cap1) ∧ u.cell? ⟨w.heap.size, 1, none⟩ = some (.slice a2 paths.length cap2)) := fun u hu =>
    ⟨(hu.cell (p := ⟨w.heap.size, 0, none⟩) (by simp)).trans (by simp), (hu.cell (p := ⟨w.heap.size, 1, none⟩) (by simp)).trans (by simp)⟩
  have hNB : Hid (w.heap.size + 1 ≤ (w.alloc (.cells #[.slice a1 caps.length cap1, .slice a2 paths.length cap2] 25)).heap.size) := by simp [Hid]
  by_cases he : loadE caps paths r = 0
  · obtain ⟨e1, e2, e3, e4⟩ := loadE_0 he
    have h0 := netE_0 e1
    have HGd := good_of_net e1
    have HPb : Hid (∀ f, f < paths.length → ∀ x ∈ paths.getD f [], 0 ≤ x ∧ x < caps.length) := fun f hf x hx => (HGd.2.1 _ (getD_mem paths f hf [])).2 x hx
    have HRf : Hid (∀ f, f < paths.length → fault (rP r f).1 (rP r f).2 = 0) := fun f hf => (ratesE_iff r).1 e3 _ (getD_mem r f (by omega) (0, 0))
    have HRx : Hid (∀ i, i < paths.length → ∃ b off, ar = some ⟨b, off, none⟩ ∧ ∀ u, Below w.heap.size w u → u.cell? ⟨b, off + i * 2, none⟩ = some (.int .i64 (rP r i).1) ∧ u.cell? ⟨b, off + i * 2 + 1, none⟩ = some (.int .i64 (rP r i).2)) := by
      intro i hi
      obtain ⟨_, _, e, _, hc⟩ := HX.out
      simp only [Value.slice.injEq] at e
      obtain ⟨rfl, _, rfl⟩ := e
      rcases hc with hc | ⟨b, off, rfl, hc, _⟩
      · rw [hc] at e2; simp at e2; omega
      · exact ⟨b, off, rfl, fun u hu => ⟨cell_later hu (hc i (by omega)).1, cell_later hu (hc i (by omega)).2⟩⟩
    have hp6 : paths.length ≤ 6 := h0.2.2.2.1
    have hc6 : caps.length ≤ 6 := h0.2.1
    have l1 : r.length ≤ paths.length := Nat.le_of_eq e2
    have l2 : paths.length ≤ r.length := Nat.le_of_eq e2.symm
    have HU : Hid (∀ (l : Int) (u : World), Below w.heap.size w u → Calls Tryd.prog 17 #[.agg #[.slice a1 caps.length cap1, .slice a2 paths.length cap2], .int .i64 l] u fun e w' => ∃ x, e = .returned x ∧ IntsAt (fun b => u.heap.size ≤ b) w' x (users paths l) ∧ Below u.heap.size u w') := fun l u hu => RUsers_any caps paths l _ u (HV.out.later hu) (by omega)
    have HFu : Hid (∀ (R : Nat → Prop) (y : Value) (u : World), Below w.heap.size w u → FracsAt R u y (loadL paths r caps.length) → Calls Tryd.prog 5 #[.agg #[.slice a1 caps.length cap1, .slice a2 paths.length cap2], y] u fun e w' => ∃ z, e = .returned z ∧ IntsAt (fun b => u.heap.size ≤ b) w' z (fullTo caps (loadL paths r caps.length) caps.length) ∧ Below u.heap.size u w') := fun R y u hu hy => RFull_any caps paths (loadL paths r caps.length) _ y u (HV.out.later hu) hy (loadL_length _ _ _) (by omega)
    have HIf : Hid (∀ x : Int, 0 ≤ x → x < caps.length → inB (fullTo caps (loadL paths r caps.length) caps.length) x = fullB caps paths r x.toNat) := fun x a b => in_full a b
    have HNk : Hid (∀ f, f < paths.length → (necksL caps paths r).getD f 0 = ((paths.getD f []).find? fun x => fullB caps paths r x.toNat && mostB paths r f x).getD (-1)) := fun f hf => necksL_at hf
    have HMb : Hid (∀ f (x : Int), mostB paths r f x = (users paths x).all fun u => decide (cmpI ((rP r u.toNat).1 * (rP r f).2) ((rP r f).1 * (rP r u.toNat).2) ≤ 0)) := fun f x => rfl
    have HNl : Hid ((necksL caps paths r).length = paths.length) := necksL_length _ _ _
    rw [he, okL_0] at HL
    rw [he, okL_0]
    generalize fullTo caps (loadL paths r caps.length) caps.length = FL at *
    generalize fullB caps paths r = fbf at *
    generalize mostB paths r = mbf at *
    generalize necksL caps paths r = NL at *
    generalize loadL paths r caps.length = ls at *
    obtain ⟨i0, hi, hz0, hz1, hz2⟩ := info_parts infoInt
    clear e1 e2 e3 e4 h0 HGd he HX
    go_enter Tryd.func9, Tryd.ntmps9
    go_wp2_with fail
    refine (HL.out _ (HBW.out _ (Below.refl _ _))).mono ?_
    rintro e w1 ⟨y1, rfl, hy1, hw1⟩
    have B1 : Hid (Below (w.heap.size + 1) (w.alloc (.cells #[.slice a1 caps.length cap1, .slice a2 paths.length cap2] 25)) w1) := Bel.call (Below.refl _ _) hNB.out hw1
    obtain ⟨g0, g1⟩ := HCW.out _ B1.out
    have HF1 : Hid (Calls Tryd.prog 5 #[.agg #[.slice a1 caps.length cap1, .slice a2 paths.length cap2], y1] w1 fun e w' => ∃ z, e = .returned z ∧ IntsAt (fun b => w1.heap.size ≤ b) w' z FL ∧ Below w1.heap.size w1 w') := HFu.out _ y1 w1 (HBW.out _ B1.out) hy1
    obtain ⟨ay, ny, cy, rfl⟩ := hy1.shape
    clear hw1 hy1 HFu
    go_wp2_with fail
    refine HF1.out.mono ?_
    rintro e w3 ⟨z3, rfl, hz3, hw3⟩
    have B3 : Hid (Below (w.heap.size + 1) (w.alloc (.cells #[.slice a1 caps.length cap1, .slice a2 paths.length cap2] 25)) w3) := Bel.call B1.out hNB.out hw3
    have F3 : Hid (IntsAt (fun _ => True) w3 z3 FL) := hz3.keep (fun _ _ _ => rfl) (fun _ _ _ => trivial)
    obtain ⟨az, cz, rfl, _⟩ := hz3
    clear hw3 g0 g1 HF1
    have hs3 : w.heap.size + 1 ≤ w3.heap.size := Nat.le_trans hNB.out B3.out.size
    obtain ⟨g0, g1⟩ := HCW.out _ B3.out
    go_wp2
    go_loopw [9, 10] (fun s9 s10 wq => ∃ f : Nat, f ≤ paths.length ∧ s10 = .int .i64 f ∧ Hid (wq.ownsRow w3.heap.size 3 1 s9 f ((NL.take f).map (Value.int .i64))) ∧ Hid (Below w3.heap.size w3 wq)) (fun _ s10 _ => paths.length - (intOf s10).toNat)
    case atStart => exact ⟨0, by omega, rfl, World.ownsRow_nil _ _ _ _, Below.refl _ _⟩
    case round =>
      obtain ⟨f, hf, rfl, ho, hb⟩ := hrel
      have BF : Hid (Below (w.heap.size + 1) (w.alloc (.cells #[.slice a1 caps.length cap1, .slice a2 paths.length cap2] 25)) wr) := Bel.call B3.out hNB.out hb.out
      clear g0 g1
      obtain ⟨g0, g1⟩ := HCW.out _ BF.out
      have hsf : w3.heap.size ≤ wr.heap.size := hb.out.size
      by_cases hfl : f < paths.length
      · obtain ⟨bp, op, capp, xp, e, hcp⟩ := HPp.out f hfl
        simp only [Value.slice.injEq] at e
        obtain ⟨rfl, _, rfl⟩ := e
        have HPf := HPb.out f hfl
        have HNf := HNk.out f hfl
        have HPx : Hid (∀ u, Below w.heap.size w u → u.cell? ⟨bp, op + f, none⟩ = some xp ∧ IntsAt Q u xp (paths.getD f [])) := hcp
        generalize paths.getD f [] = pf at *
        obtain ⟨ax, capx, rfl, ⟨hmx, hnx⟩, _⟩ := (hcp _ (HBW.out _ BF.out)).2
        have HXC : Hid (∀ i, i < pf.length → ∃ b off, ax = some ⟨b, off, none⟩ ∧ ∀ u, Below w.heap.size w u → u.cell? ⟨b, off + i, none⟩ = some (.int .i64 (pf.getD i 0))) := by
          intro i hi
          obtain ⟨_, _, e, _, hc⟩ := (HPx.out w (Below.refl _ _)).2
          simp only [Value.slice.injEq] at e
          obtain ⟨rfl, _, rfl⟩ := e
          rcases hc with rfl | ⟨b, off, rfl, hc, _⟩
          · simp at hi
          · exact ⟨b, off, rfl, fun u hu => cell_later hu (hc i hi)⟩
        obtain ⟨pr, hpr⟩ : ∃ pr : Int → Bool, pr = fun x => fbf x.toNat && mbf f x := ⟨_, rfl⟩
        have HPR : Hid (∀ x, pr x = (fbf x.toNat && mbf f x)) := fun x => by rw [hpr]
        rw [← hpr] at HNf
        have HNF : Hid (NL.getD f 0 = (pf.find? pr).getD (-1)) := HNf
        have HPf' : Hid (∀ x ∈ pf, 0 ≤ x ∧ x < caps.length) := HPf
        obtain ⟨br, orr, rfl, hrf⟩ := HRx.out f hfl
        have HRF : Hid (∀ u, Below w.heap.size w u → u.cell? ⟨br, orr + f * 2, none⟩ = some (.int .i64 (rP r f).1) ∧ u.cell? ⟨br, orr + f * 2 + 1, none⟩ = some (.int .i64 (rP r f).2)) := hrf
        have HRX : Hid (∀ i, i < paths.length → ∀ u, Below w.heap.size w u → u.cell? ⟨br, orr + i * 2, none⟩ = some (.int .i64 (rP r i).1) ∧ u.cell? ⟨br, orr + i * 2 + 1, none⟩ = some (.int .i64 (rP r i).2)) := by
          intro i hi u hu
          obtain ⟨_, _, e, hh⟩ := HRx.out i hi
          simp only [Option.some.injEq, Addr.mk.injEq, and_true] at e
          obtain ⟨rfl, rfl⟩ := e
          exact hh u hu
        have hfr := HRf.out f hfl
        have hflr : f < r.length := by omega
        generalize hr1 : (rP r f).1 = rf1 at *
        generalize hr2 : (rP r f).2 = rf2 at *
        have HMf : Hid (∀ x : Int, mbf f x = (users paths x).all fun u => decide (cmpI ((rP r u.toNat).1 * rf2) (rf1 * (rP r u.toNat).2) ≤ 0)) := fun x => by rw [HMb.out, hr1, hr2]
        obtain ⟨wF, rfl⟩ : ∃ wF, wF = wr := ⟨_, rfl⟩
        clear hcp HPf HNf hpr hrf hr1 hr2
        go_wp2
        go_loopw [11, 12] (fun s11 s12 wq => ∃ i : Nat, i ≤ pf.length ∧ s12 = .int .i64 i ∧ s11 = .int .i64 (((pf.take i).find? pr).getD (-1)) ∧ Hid (Below wF.heap.size wF wq)) (fun _ s12 _ => pf.length - (intOf s12).toNat)
        case atStart => exact ⟨0, by omega, rfl, rfl, Below.refl _ _⟩
        case round =>
          obtain ⟨i, hil, rfl, rfl, hbi⟩ := hrel
          have BI : Hid (Below (w.heap.size + 1) (w.alloc (.cells #[.slice a1 caps.length cap1, .slice (some ⟨bp, op, none⟩) paths.length cap2] 25)) wr) := Bel.call BF.out hNB.out hbi.out
          clear g0 g1
          obtain ⟨g0, g1⟩ := HCW.out _ BI.out
          have cp := (HPx.out _ (HBW.out _ BI.out)).1
          by_cases hii : i < pf.length
          · cases hfd : (pf.take i).find? pr with
            | some z =>
              have HZ : Hid (NL.getD f 0 = z) := by show _ = _; rw [HNF.out, find_take_some _ _ _ hfd]; rfl
              have hz0' : 0 ≤ z := (HPf'.out z (List.mem_of_mem_take (List.mem_of_find?_eq_some hfd))).1
              have HO2 : Hid (wr.ownsRow w3.heap.size 3 1 u9 f ((NL.take f).map (Value.int .i64))) := ownsRow_full hbi.out ho.out
              have B3i : Hid (Below w3.heap.size w3 wr) := Bel.call hb.out (Nat.le_refl _) hbi.out
              have hs5 : w3.heap.size ≤ wr.heap.size := B3i.out.size
              simp only [Option.getD_some]
              clear hfd
              go_wp2_with (at_builtin; go_must (refine wpList_append_own _ rfl (.tmp 88) (.tmp 90) 22 rfl w3.heap.size 3 i0 (.int .i64 0) 1 8 Tryd.underlying22 hi hz0 hz1 hz2 rfl (by decide) _ _ _ rfl (HO2.out.alloc _) ⟨wr.heap.size, 0, none⟩ 1 1 [.int .i64 z] rfl rfl (cell_one_new _ _ _) (by intro u hu; simp at hu; subst hu; rfl) (by unfold maxLen; omega) (by omega) (by simp; omega) ?_))
              intro v' wg hown' hgrow _
              have R1 : Hid (Below w3.heap.size w3 wg) := rel_append B3i.out hs5 HO2.out hgrow
              have R2 : Hid (wg.ownsRow w3.heap.size 3 1 v' (f + 1) ((NL.take (f + 1)).map (Value.int .i64))) := by
                show World.ownsRow _ _ _ _ _ _ _
                rw [take_getD_succ NL f (by have := HNl.out; omega), HZ.out]
                simpa [List.map_take] using hown'
              clear hown' hgrow
              go_wp2
              go_roundw
              case rel => exact ⟨f + 1, by omega, by go_num, R2, R1⟩
              case measure => simp [intOf]; omega
            | none =>
              obtain ⟨bx, ox, rfl, hcx⟩ := HXC.out i hii
              have cx := hcx _ (HBW.out _ BI.out)
              have hxb := HPf'.out _ (getD_mem pf i hii 0)
              have HIn := (show Hid (∀ u : World, Below w3.heap.size w3 u → _) from fun u hu => In_any FL (pf.getD i 0) _ u (F3.out.later hu))
              rw [HIf.out _ hxb.1 hxb.2] at HIn
              have hfs := find_take_succ pf pr i hii 0 hfd
              have HUx : Hid (∀ u : World, Below w.heap.size w u → Calls Tryd.prog 17 #[.agg #[.slice a1 caps.length cap1, .slice (some ⟨bp, op, none⟩) paths.length cap2], .int .i64 (pf.getD i 0)] u fun e w' => ∃ x, e = .returned x ∧ IntsAt (fun b => u.heap.size ≤ b) w' x (users paths (pf.getD i 0)) ∧ Below u.heap.size u w') := fun u hu => HU.out _ u hu
              have hpx := HPR.out (pf.getD i 0)
              rw [HMf.out] at hpx
              have hum : ∀ u ∈ users paths (pf.getD i 0), 0 ≤ u ∧ u < paths.length := fun u hu => users_mem hu
              generalize pf.getD i 0 = x at *
              generalize users paths x = us at *
              generalize fbf x.toNat = fb at *
              obtain ⟨qf, hqf⟩ : ∃ qf : Int → Bool, qf = fun u => decide (cmpI ((rP r u.toNat).1 * rf2) (rf1 * (rP r u.toNat).2) ≤ 0) := ⟨_, rfl⟩
              rw [← hqf] at hpx
              have HQ : Hid (∀ u, qf u = decide (cmpI ((rP r u.toNat).1 * rf2) (rf1 * (rP r u.toNat).2) ≤ 0)) := fun u => by rw [hqf]
              have HFS : Hid ((pf.take (i + 1)).find? pr = if pr x then some x else none) := hfs
              have HPX : Hid (pr x = (fb && us.all qf)) := hpx
              have HUM : Hid (∀ u ∈ us, 0 ≤ u ∧ u < paths.length) := hum
              have B3i : Hid (Below w3.heap.size w3 wr) := Bel.call hb.out (Nat.le_refl _) hbi.out
              simp only [Option.getD_none]
              clear hfd hfs hpx hum hqf hcx hxb
              go_wp2_with fail
              refine (HIn.out _ B3i.out).mono ?_
              rintro e wr ⟨rfl, rfl⟩
              go_wp2_with fail
              refine (HUx.out _ (HBW.out _ BI.out)).mono ?_
              rintro e w5 ⟨xu, rfl, hxu, hw5⟩
              have E5 : Hid (Below wF.heap.size wF w5) := Bel.call hbi.out (Nat.le_refl _) hw5
              have B5 : Hid (Below w.heap.size w w5) := HBW.out _ (Bel.call BI.out hNB.out hw5)
              have X5 : Hid (∀ j, j < us.length → ∃ b off, ∃ cap, xu = .slice (some ⟨b, off, none⟩) us.length cap ∧ ∀ u, Below w5.heap.size w5 u → u.cell? ⟨b, off + j, none⟩ = some (.int .i64 (us.getD j 0))) := by
                intro j hj
                obtain ⟨a, cap, e, _, hc⟩ := hxu
                rcases hc with rfl | ⟨b, off, rfl, hc, _⟩
                · simp at hj
                · exact ⟨b, off, cap, e, fun u hu => cell_later hu (hc j hj)⟩
              obtain ⟨au, capu, rfl, ⟨hmu, hnu⟩, _⟩ := hxu
              clear hw5 g0 g1 cp cx
              go_wp2
              go_loopw [14, 16] (fun s14 s16 wq => ∃ k : Nat, k ≤ us.length ∧ s16 = .int .i64 k ∧ s14 = .bool (fb && (us.take k).all qf) ∧ Hid (Below w5.heap.size w5 wq)) (fun _ s16 _ => us.length - (intOf s16).toNat)
              case atStart => exact ⟨0, by omega, rfl, by simp, Below.refl _ _⟩
              case round =>
                obtain ⟨k, hk, rfl, rfl, hbk⟩ := hrel
                have EK : Hid (Below wF.heap.size wF wr) := Bel.call E5.out (Nat.le_refl _) hbk.out
                by_cases hkl : k < us.length
                · cases hok : (fb && (us.take k).all qf) with
                  | false =>
                    have HP0 : Hid ((pf.take (i + 1)).find? pr = none) := by
                      show _ = _
                      rw [HFS.out, if_neg]
                      rw [HPX.out]
                      cases fb with
                      | false => simp
                      | true =>
                        simp only [Bool.true_and] at hok
                        rw [all_of_take hok]; simp
                    clear hok
                    go_wp2
                    go_roundw
                    case rel => exact ⟨i + 1, by omega, by go_num, by rw [HP0.out]; rfl, EK⟩
                    case measure => simp [intOf]; omega
                  | true =>
                    obtain ⟨bu, ou, cu, e, hcu⟩ := X5.out k hkl
                    simp only [Value.slice.injEq] at e
                    obtain ⟨rfl, _, rfl⟩ := e
                    have hum := HUM.out _ (getD_mem us k hkl 0)
                    obtain ⟨m, hm'⟩ : ∃ m : Nat, us.getD k 0 = m := ⟨(us.getD k 0).toNat, by omega⟩
                    have hmn : m < paths.length := by omega
                    have hmr : m < r.length := by omega
                    have BK : Hid (Below w.heap.size w wr) := Bel.call B5.out (Nat.le_refl _) hbk.out
                    have z0 := hcu _ hbk.out
                    rw [hm'] at z0
                    obtain ⟨z1, z2⟩ := HRX.out m hmn _ BK.out
                    obtain ⟨z3, z4⟩ := HRF.out _ BK.out
                    have HAl := all_take us qf k hkl
                    rw [hm', HQ.out, show ((m : Int)).toNat = m by omega] at HAl
                    have hal : (us.take k).all qf = true := by
                      cases fb with
                      | false => simp at hok
                      | true => simpa using hok
                    have hfb : fb = true := by
                      cases fb with
                      | false => simp at hok
                      | true => rfl
                    rw [hal] at HAl
                    have HOr : Hid (∀ u : World, Calls Tryd.prog 22 #[.agg #[.int .i64 (rP r m).1, .int .i64 (rP r m).2], .agg #[.int .i64 rf1, .int .i64 rf2]] u fun e w' => e = .returned (.int .i64 (cmpI ((rP r m).1 * rf2) (rf1 * (rP r m).2))) ∧ Below u.heap.size u w') := fun u => Order_any _ _ _ _ u (HRf.out m hmn) hfr
                    have P1 : Hid (Below wr.heap.size wr wr.drew) := (Below.refl _ _).drew
                    have HSA : Hid (∀ u : World, Below wr.heap.size wr u → u.cell? ⟨bu, ou + k, none⟩ = some (.int .i64 m) ∧ u.cell? ⟨br, orr + m * 2, none⟩ = some (.int .i64 (rP r m).1) ∧ u.cell? ⟨br, orr + m * 2 + 1, none⟩ = some (.int .i64 (rP r m).2) ∧ u.cell? ⟨br, orr + f * 2, none⟩ = some (.int .i64 rf1) ∧ u.cell? ⟨br, orr + f * 2 + 1, none⟩ = some (.int .i64 rf2)) := fun u hu => ⟨cell_later hu z0, cell_later hu z1, cell_later hu z2, cell_later hu z3, cell_later hu z4⟩
                    generalize cmpI ((rP r m).1 * rf2) (rf1 * (rP r m).2) = c at *
                    generalize (rP r m).1 = t1 at *
                    generalize (rP r m).2 = t2 at *
                    have HAL : Hid ((us.take (k + 1)).all qf = decide (c ≤ 0)) := by show _ = _; rw [HAl]; simp
                    have HFB : Hid (fb = true) := hfb
                    clear hok hal hfb HAl hcu hum hm' z0 z1 z2 z3 z4
                    by_cases hc0 : c ≤ 0
                    all_goals
                      go_wp2_with fail
                      go_region_held3 (fun u => u.cell? ⟨bu, ou + k, none⟩ = some (.int .i64 m) ∧ u.cell? ⟨br, orr + m * 2, none⟩ = some (.int .i64 t1) ∧ u.cell? ⟨br, orr + m * 2 + 1, none⟩ = some (.int .i64 t2) ∧ u.cell? ⟨br, orr + f * 2, none⟩ = some (.int .i64 rf1) ∧ u.cell? ⟨br, orr + f * 2 + 1, none⟩ = some (.int .i64 rf2))
                        ((refine HSA.out _ ?_; first | exact P1.out | exact Hbt.out))
                        (first | (go_at_call 22; refine (HOr.out _).mono ?_; rintro e wt ⟨rfl, hwt⟩; have Hbt : Hid (Below wr.heap.size wr wt) := Bel.call P1.out (Nat.le_refl _) hwt))
                      have Et : Hid (Below w5.heap.size w5 wt) := Bel.call hbk.out (Nat.le_refl _) Hbt.out
                      go_wp2
                      go_roundw
                      case rel => exact ⟨k + 1, by omega, by go_num, by rw [HAL.out, HFB.out]; simp [hc0], Et⟩
                      case measure => simp [intOf]; omega
                · obtain rfl : k = us.length := by omega
                  rw [List.take_of_length_le (Nat.le_refl _), ← HPX.out]
                  cases hpx : pr x with
                  | true =>
                    have HP0 : Hid ((pf.take (i + 1)).find? pr = some x) := by show _ = _; rw [HFS.out, if_pos hpx]
                    clear hpx
                    go_wp2
                    go_roundw
                    case rel => exact ⟨i + 1, by omega, by go_num, by rw [HP0.out]; rfl, EK⟩
                    case measure => simp [intOf]; omega
                  | false =>
                    have HP0 : Hid ((pf.take (i + 1)).find? pr = none) := by show _ = _; rw [HFS.out, if_neg (by rw [hpx]; simp)]
                    clear hpx
                    go_wp2
                    go_roundw
                    case rel => exact ⟨i + 1, by omega, by go_num, by rw [HP0.out]; rfl, EK⟩
                    case measure => simp [intOf]; omega
          · obtain rfl : i = pf.length := by omega
            have HZ : Hid (NL.getD f 0 = ((pf.take pf.length).find? pr).getD (-1)) := by show _ = _; rw [HNF.out, List.take_of_length_le (Nat.le_refl _)]
            have HO2 : Hid (wr.ownsRow w3.heap.size 3 1 u9 f ((NL.take f).map (Value.int .i64))) := ownsRow_full hbi.out ho.out
            have B3i : Hid (Below w3.heap.size w3 wr) := Bel.call hb.out (Nat.le_refl _) hbi.out
            have hs5 : w3.heap.size ≤ wr.heap.size := B3i.out.size
            generalize ((pf.take pf.length).find? pr).getD (-1) = z at *
            go_wp2_with (at_builtin; go_must (refine wpList_append_own _ rfl (.tmp 88) (.tmp 90) 22 rfl w3.heap.size 3 i0 (.int .i64 0) 1 8 Tryd.underlying22 hi hz0 hz1 hz2 rfl (by decide) _ _ _ rfl (HO2.out.alloc _) ⟨wr.heap.size, 0, none⟩ 1 1 [.int .i64 z] rfl rfl (cell_one_new _ _ _) (by intro u hu; simp at hu; subst hu; rfl) (by unfold maxLen; omega) (by omega) (by simp; omega) ?_))
            intro v' wg hown' hgrow _
            have R1 : Hid (Below w3.heap.size w3 wg) := rel_append B3i.out hs5 HO2.out hgrow
            have R2 : Hid (wg.ownsRow w3.heap.size 3 1 v' (f + 1) ((NL.take (f + 1)).map (Value.int .i64))) := by
              show World.ownsRow _ _ _ _ _ _ _
              rw [take_getD_succ NL f (by have := HNl.out; omega), HZ.out]
              simpa [List.map_take] using hown'
            clear hown' hgrow
            go_wp2
            go_roundw
            case rel => exact ⟨f + 1, by omega, by go_num, R2, R1⟩
            case measure => simp [intOf]; omega
      · obtain rfl : f = paths.length := by omega
        have HY : Hid (IntsAt (fun b => w.heap.size ≤ b) wr u9 NL) := by
          have := ho.out
          rw [List.take_of_length_le (by have := HNl.out; omega), ← HNl.out] at this
          exact ints_of_owns (base := w3.heap.size) (by have := HNl.out; omega) this (fun g hg => by omega)
        go_wp2
        refine bodyPost_ret (v := .tuple #[u9, .int .i64 0]) (by simp [results, Tryd.results9, go_sem]) rfl ?_
        exact ⟨_, rfl, HY.out, HBW.out _ BF.out⟩
  · have q : (loadE caps paths r != 0) = true := by simpa using he
    have hk : okL (loadE caps paths r) (necksL caps paths r) = [] := okL_ne he _
    rw [okL_ne he] at HL
    rw [hk]
    generalize loadE caps paths r = ek at *
    clear he hk
    go_enter Tryd.func9, Tryd.ntmps9
    go_wp2_with fail
    refine (HL.out _ (HBW.out _ (Below.refl _ _))).mono ?_
    rintro e w1 ⟨y1, rfl, hy1, hw1⟩
    have B1 : Hid (Below (w.heap.size + 1) (w.alloc (.cells #[.slice a1 caps.length cap1, .slice a2 paths.length cap2] 25)) w1) := Bel.call (Below.refl _ _) hNB.out hw1
    obtain ⟨ay, ny, cy, rfl⟩ := hy1.shape
    clear hw1 hy1
    go_wp2
    refine bodyPost_ret (v := .tuple #[.slice none 0 0, .int .i64 ek]) (by simp [results, Tryd.results9, go_sem]) rfl ?_
    exact ⟨_, rfl, ⟨none, 0, rfl, ⟨Nat.le_refl _, by simp⟩, .inl rfl⟩, HBW.out _ B1.out⟩
end Fl
end Go.Proofs.YtdegbfgnbobgoacDoor
