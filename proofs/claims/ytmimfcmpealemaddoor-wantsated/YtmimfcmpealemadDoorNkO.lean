/- Package neck's Of: of each flow the narrow place. -/
import Derived.Test.YtmimfcmpealemadDoorPlains
import Derived.Test.YtmimfcmpealemadDoorNkE
import Derived.Test.YtmimfcmpealemadDoorNkF
namespace Go.Proofs.YtmimfcmpealemadDoor
namespace Fl
open Go.RowKit Fr Ns Ld
set_option linter.unusedSimpArgs false
set_option linter.unusedVariables false

theorem find_congr' {l : List Int} {p q : Int → Bool} (h : ∀ x ∈ l, p x = q x) : l.find? p = l.find? q := by
  induction l with
  | nil => rfl
  | cons a r ih =>
    simp only [List.find?_cons, h a (by simp)]
    rw [ih fun x hx => h x (by simp [hx])]
theorem neck_so {caps : List Int} {paths : List (List Int)} {r : List (Int × Int)} (h : netE caps paths = 0) {f : Nat} (hf : f < paths.length) :
    ((paths.getD f []).find? (soB (fullTo caps (loadL paths r caps.length) caps.length) paths r f)).getD (-1) = (necksL caps paths r).getD f 0 := by
  rw [necksL_at hf]
  unfold neckOf
  congr 1
  refine find_congr' fun x hx => ?_
  have hb := ((good_of_net h).2.1 _ (getD_mem paths f hf [])).2 x hx
  unfold soB
  rw [in_full hb.1 hb.2, mostB_over]
theorem take_set1 {xs : List Value} {k n : Nat} {x : Value} (hl : xs.length = n) (hk : k < n) : (xs.set k x).take (k + 1) = xs.take k ++ [x] := by
  apply List.ext_getElem?
  intro i
  rw [List.getElem?_take]
  by_cases h1 : i < k
  · rw [if_pos (by omega), List.getElem?_append_left (by rw [List.length_take]; omega), List.getElem?_take, if_pos h1, List.getElem?_set_ne (by omega)]
  · have hlen : (xs.take k).length = k := by rw [List.length_take]; omega
    rw [List.getElem?_append_right (by omega), hlen]
    by_cases h2 : i = k
    · subst h2
      rw [if_pos (by omega), List.getElem?_set_self (by omega)]
      simp
    · rw [if_neg (by omega), List.getElem?_eq_none]
      simp; omega

set_option maxRecDepth 100000 in
set_option maxHeartbeats 8000000 in
theorem nof_said : NOfSaid := by
  intro Q caps paths r v x w h hx
  have HFu : Hid (∀ u : World, Below w.heap.size w u → Calls Tryd.prog 36 #[v, x] u fun e w' => ∃ y, e = .returned (.tuple #[y, errV (loadE caps paths r)]) ∧ IntsAt (fun b => u.heap.size ≤ b) w' y (okL (loadE caps paths r) (fullTo caps (loadL paths r caps.length) caps.length)) ∧ Below u.heap.size u w') := fun u hu => nfull_said Q caps paths r v x u (h.later hu) (hx.later hu)
  by_cases hk : loadE caps paths r = 0
  · obtain ⟨e1, e2, e3, e4⟩ := loadE_0 hk
    have hp6 : paths.length ≤ 6 := (netE_0 e1).2.2.2.1
    have HNk : Hid (∀ f, f < paths.length → ((paths.getD f []).find? (soB (fullTo caps (loadL paths r caps.length) caps.length) paths r f)).getD (-1) = (necksL caps paths r).getD f 0) := fun f hf => neck_so e1 hf
    have HNl : Hid ((necksL caps paths r).length = paths.length) := necksL_length _ _ _
    have HE : Hid (r.length = paths.length ∧ ratesE r = 0) := ⟨e2, e3⟩
    rw [hk, errV_0, okL_0] at HFu
    rw [hk, errV_0, okL_0]
    generalize fullTo caps (loadL paths r caps.length) caps.length = FL at *
    generalize necksL caps paths r = NL at *
    have HV : Hid (NetAt Q w v caps paths) := h
    have HX : Hid (FracsAt Q w x r) := hx
    clear e1 e2 e3 e4 hk
    obtain ⟨v1, v2, rfl, h1, h2⟩ := h
    have HPp : Hid (∀ i, i < paths.length → ∃ b off, ∃ cap, ∃ x, v2 = .slice (some ⟨b, off, none⟩) paths.length cap ∧ ∀ u, Below w.heap.size w u → u.cell? ⟨b, off + i, none⟩ = some x ∧ IntsAt Q u x (paths.getD i [])) := by
      intro i hi
      obtain ⟨a, cap, e, _, hc⟩ := h2
      rcases hc with rfl | ⟨b, off, rfl, hc, _⟩
      · simp at hi
      · obtain ⟨x, hx, hxi⟩ := hc i hi
        exact ⟨b, off, cap, x, e, fun u hu => ⟨cell_later hu hx, hxi.later hu⟩⟩
    obtain ⟨a1, cap1, rfl, ⟨hm1, hn1⟩, _⟩ := h1
    obtain ⟨a2, cap2, rfl, ⟨hm2, hn2⟩, _⟩ := h2
    obtain ⟨ar, capr, rfl, ⟨hm3, hn3⟩, _⟩ := hx
    obtain ⟨i0, hi, hz0, hz1, hz2⟩ := info_parts infoInt
    obtain ⟨w0, hw0⟩ : ∃ w0, Hid (w0 = (w.alloc (.cells #[.slice a1 caps.length cap1, .slice a2 paths.length cap2] 25)).alloc (.cells #[.slice ar r.length capr] 34)) := ⟨_, rfl⟩
    have B0 : Hid (Below w.heap.size w w0) := by rw [hw0.out]; exact ((Below.refl _ _).alloc (Nat.le_refl _) _).alloc (by simp) _
    have z0 : Hid (w0.heap.size = w.heap.size + 1 + 1) := by rw [hw0.out]; simp [Hid]
    have G0 : Hid (w0.cell? ⟨w.heap.size, 0, none⟩ = some (.slice a1 caps.length cap1) ∧ w0.cell? ⟨w.heap.size, 1, none⟩ = some (.slice a2 paths.length cap2) ∧ w0.cell? ⟨w.heap.size + 1, 0, none⟩ = some (.slice ar r.length capr)) := by
      rw [hw0.out]
      exact ⟨by go_simp, by go_simp, by go_simp⟩
    go_enter Tryd.func17, Tryd.ntmps17
    go_wp2_with fail
    rw [← hw0.out]
    refine (HFu.out _ B0.out).mono ?_
    rintro e w1 ⟨y, rfl, hy, hw1⟩
    obtain ⟨ay, ny, cy, hys⟩ : ∃ a n c, y = .slice a n c := by obtain ⟨a, c, e, _⟩ := hy; exact ⟨_, _, _, e⟩
    subst hys
    have B1 : Hid (Below w0.heap.size w0 w1) := hw1
    have HFL : Hid (IntsAt (fun _ => True) w1 (.slice ay ny cy) FL) := hy.keep (fun _ _ _ => rfl) (fun _ _ _ => trivial)
    have zA : Hid ((w1.alloc (.cells #[.slice ay ny cy] 22)).heap.size = w1.heap.size + 1) := by simp [Hid]
    have BA : Hid (Below w1.heap.size w1 (w1.alloc (.cells #[.slice ay ny cy] 22))) := (Below.refl _ _).alloc (Nat.le_refl _) _
    have gF : Hid ((w1.alloc (.cells #[.slice ay ny cy] 22)).cell? ⟨w1.heap.size, 0, none⟩ = some (.slice ay ny cy)) := by simp [Hid]
    have hs01 : w0.heap.size ≤ w1.heap.size := B1.out.size
    have g1 : w1.cell? ⟨w.heap.size, 1, none⟩ = some (.slice a2 paths.length cap2) := cell_later B1.out G0.out.2.1
    have gA : (w1.alloc (.cells #[.slice ay ny cy] 22)).cell? ⟨w.heap.size, 1, none⟩ = some (.slice a2 paths.length cap2) := cell_later BA.out g1
    have hlA : w.heap.size + 1 < w1.heap.size := by have := z0.out; omega
    have BW1 : Hid (Below w.heap.size w w1) := B0.out.trans (B1.out.mono B0.out.size)
    have HSo : Hid (∀ (f : Nat) (u : World) (gI : Nat), Below (w1.heap.size + 1) (w1.alloc (.cells #[.slice ay ny cy] 22)) u → u.cell? ⟨gI, 0, none⟩ = some (.int .i64 f) → SoAt Q (fun _ => True) u caps paths r FL f w1.heap.size w.heap.size (w.heap.size + 1) gI) := by
      intro f u gI hu hI
      have hu1 : Below w1.heap.size w1 u := BA.out.trans (hu.mono (by omega))
      have hu0 : Below w0.heap.size w0 u := B1.out.trans (hu1.mono B1.out.size)
      have huw : Below w.heap.size w u := B0.out.trans (hu0.mono B0.out.size)
      have hu' : Below (w1.alloc (.cells #[.slice ay ny cy] 22)).heap.size (w1.alloc (.cells #[.slice ay ny cy] 22)) u := by rw [zA.out]; exact hu
      exact ⟨⟨_, cell_later hu' gF.out, HFL.out.later hu1⟩, ⟨_, _, cell_later hu0 G0.out.1, cell_later hu0 G0.out.2.1, HV.out.later huw⟩, ⟨_, cell_later hu0 G0.out.2.2, HX.out.later huw⟩, hI⟩
    have HBA : Hid (∀ u : World, Below (w1.heap.size + 1) (w1.alloc (.cells #[.slice ay ny cy] 22)) u → Below w.heap.size w u ∧ u.cell? ⟨w.heap.size, 1, none⟩ = some (.slice a2 paths.length cap2)) := by
      intro u hu
      have hu1 : Below w1.heap.size w1 u := BA.out.trans (hu.mono (by omega))
      exact ⟨BW1.out.trans (hu1.mono BW1.out.size), cell_later hu1 g1⟩
    clear hw1 hy g1
    go_wp2_with (at_make; go_must (refine wpList_make_full _ rfl _ _ 22 rfl (w1.heap.size + 1) 3 i0 (.int .i64 0) 1 Tryd.underlying22 hi hz0 hz1 .i64 .i64 _ _ paths.length rfl rfl rfl rfl ?b2 ?b3 ?b4 ?_))
    case b2 => rw [hz2]; omega
    case b3 => unfold maxLen; omega
    case b4 => simp
    intro w2 hown hgrow
    have HB2 : Hid (Below (w1.heap.size + 1) (w1.alloc (.cells #[.slice ay ny cy] 22)) w2) := (Below.refl _ _).grown hgrow (by simp) (by intro k hk; cases hk)
    have HO2 : Hid (w2.ownsRow (w1.heap.size + 1) 3 1 (.slice (some ⟨w1.heap.size + 1, 0, none⟩) paths.length paths.length) paths.length (madeCells #[.int .i64 0] paths.length).toList) := by simpa [Hid] using hown
    generalize (madeCells #[Value.int .i64 0] paths.length).toList = xs0 at HO2
    have g2 := (HBA.out _ HB2.out).2
    clear hown hgrow gA
    go_wp2
    go_loopw [9, 10, 27] (fun _ _ i wr => ∃ (k : Nat) (xs : List Value), k ≤ paths.length ∧ i = .int .i64 k ∧ Hid (wr.ownsRow (w1.heap.size + 1) 3 1 (.slice (some ⟨w1.heap.size + 1, 0, none⟩) paths.length paths.length) paths.length xs) ∧ Hid (Below (w1.heap.size + 1) (w1.alloc (.cells #[.slice ay ny cy] 22)) wr) ∧ Hid (xs.take k = (NL.take k).map (Value.int .i64))) (fun _ _ i _ => paths.length - (intOf i).toNat)
    case atStart => exact ⟨0, xs0, by omega, rfl, HO2, HB2, by simp [Hid]⟩
    case round =>
      obtain ⟨k, xs, hk, rfl, ho, hb, ht⟩ := hrel
      have hsr : w1.heap.size + 1 < wr.heap.size := (ho.out.lt _ rfl).2
      have hxl : xs.length = paths.length := by have := ho.out.1; simpa using this
      by_cases hlt : k < paths.length
      · obtain ⟨bp, op, cp, xp, e, hcp⟩ := HPp.out k hlt
        simp only [Value.slice.injEq] at e
        obtain ⟨rfl, _, rfl⟩ := e
        obtain ⟨p0, hxi⟩ := hcp _ (HBA.out _ hb.out).1
        have BI : Hid (Below wr.heap.size wr (wr.alloc (.cells #[.int .i64 k] 3))) := (Below.refl _ _).alloc (Nat.le_refl _) _
        have HFi : Hid (∀ u : World, Below (wr.heap.size + 1) (wr.alloc (.cells #[.int .i64 k] 3)) u → Calls Tryd.prog 37 #[xp, .func (.func 38) #[] #[.pointer (some ⟨w1.heap.size, 0, none⟩), .pointer (some ⟨w.heap.size, 0, none⟩), .pointer (some ⟨w.heap.size + 1, 0, none⟩), .pointer (some ⟨wr.heap.size, 0, none⟩)]] u fun e w' => e = .returned (.int .i64 (NL.getD k 0)) ∧ Below u.heap.size u w') := by
          intro u hu
          have hu1 : Below wr.heap.size wr u := BI.out.trans (hu.mono (by omega))
          have huA : Below (w1.heap.size + 1) (w1.alloc (.cells #[.slice ay ny cy] 22)) u := hb.out.trans (hu1.mono (by omega))
          have hcI : u.cell? ⟨wr.heap.size, 0, none⟩ = some (.int .i64 k) := (hu.cell (p := ⟨wr.heap.size, 0, none⟩) (by simp)).trans (by simp)
          have := first_any (paths.getD k []) xp u (hxi.later hu1) (HSo.out k u wr.heap.size huA hcI) hlt HE.out.1 HE.out.2 hp6
          rw [HNk.out k hlt] at this
          exact this
        have HNs : Hid ((NL.take (k + 1)).map (Value.int .i64) = (NL.take k).map (Value.int .i64) ++ [.int .i64 (NL.getD k 0)]) := by
          show _ = _
          rw [take_snoc NL k (by have := HNl.out; omega) 0, List.map_append]
          rfl
        generalize NL.getD k 0 = nk at *
        obtain ⟨ai, ni, ci, rfl⟩ : ∃ a n c, xp = .slice a n c := by obtain ⟨a, c, e, _⟩ := hxi; exact ⟨_, _, _, e⟩
        have P1 : Hid (Below (wr.heap.size + 1) (wr.alloc (.cells #[.int .i64 k] 3)) (wr.alloc (.cells #[.int .i64 k] 3)).drew) := (Below.refl _ _).drew
        clear hcp hxi
        have HOw : Hid (∀ u : World, Below (wr.heap.size + 1) (wr.alloc (.cells #[.int .i64 k] 3)) u → Below wr.heap.size wr u ∧ u.ownsRow (w1.heap.size + 1) 3 1 (.slice (some ⟨w1.heap.size + 1, 0, none⟩) paths.length paths.length) paths.length xs ∧ (∃ z, u.cell? ⟨w1.heap.size + 1, k, none⟩ = some z) ∧ u.frozen? ⟨w1.heap.size + 1, k, none⟩ = false ∧ u.cell? ⟨wr.heap.size, 0, none⟩ = some (.int .i64 k)) := by
          intro u hu
          have hu1 : Below wr.heap.size wr u := BI.out.trans (hu.mono (by omega))
          have hO := owns_more hu1 ho.out
          have hkx : k < xs.length := by omega
          refine ⟨hu1, hO, ⟨xs[k]'hkx, ?_⟩, hO.frozenAt _, (hu.cell (p := ⟨wr.heap.size, 0, none⟩) (by simp)).trans (by simp)⟩
          rw [hO.cellAt k (by omega)]
          simp [List.getElem?_eq_getElem hkx]
        have hz0 : Hid (wr.heap.size + 1 ≤ (wr.alloc (.cells #[.int .i64 k] 3)).heap.size) := by simp [Hid]
        go_wp2_with fail
        go_region_law (first | (go_simp; refine (HFi.out _ P1.out).mono ?_; rintro e wf ⟨rfl, hwf⟩; have Hbf0 : Hid (Below (wr.heap.size + 1) (wr.alloc (.cells #[.int .i64 k] 3)) wf) := Bel.call P1.out hz0.out hwf; obtain ⟨Hbf, HOf', ⟨z0', c0'⟩, q0, hcI⟩ := HOw.out wf Hbf0.out))
        all_goals
          have R2 : Hid ((wf.setCell ⟨w1.heap.size + 1, k, none⟩ (.int .i64 nk)).ownsRow (w1.heap.size + 1) 3 1 (.slice (some ⟨w1.heap.size + 1, 0, none⟩) paths.length paths.length) paths.length (xs.set k (.int .i64 nk))) := (HOf'.stored k (.int .i64 nk)).1
          have R1 : Hid (Below (w1.heap.size + 1) (w1.alloc (.cells #[.slice ay ny cy] 22)) (wf.setCell ⟨w1.heap.size + 1, k, none⟩ (.int .i64 nk))) := (hb.out.trans (Hbf.mono (by omega))).setCell (by simp) _
          have R3 : Hid ((xs.set k (.int .i64 nk)).take (k + 1) = (NL.take (k + 1)).map (Value.int .i64)) := by
            show _ = _
            rw [take_set1 hxl hlt, ht.out, HNs.out]
          clear hwf HOf' hcI c0' q0 Hbf
          go_wp2
          go_roundw
          case rel => exact ⟨k + 1, _, by omega, by go_num, R2, R1, R3⟩
          case measure => simp [intOf]; omega
      · obtain rfl : k = paths.length := by omega
        have hxs : xs = NL.map (Value.int .i64) := by
          have := ht.out
          rwa [List.take_of_length_le (by omega), List.take_of_length_le (by have := HNl.out; omega)] at this
        have HY : Hid (IntsAt (fun b => w.heap.size ≤ b) wr (.slice (some ⟨w1.heap.size + 1, 0, none⟩) paths.length paths.length) NL) := ints_of_owns (base := w1.heap.size + 1) (by have := HNl.out; omega) (by rw [HNl.out, ← hxs]; exact ho.out) (fun g hg => by omega)
        clear hxs
        go_wp2
        refine bodyPost_ret (v := .tuple #[.slice (some ⟨w1.heap.size + 1, 0, none⟩) paths.length paths.length, .nilIface]) (by simp [results, Tryd.results17, go_sem]) rfl ?_
        exact ⟨_, rfl, HY.out, (HBA.out _ hb.out).1⟩
  · have HV : Hid (errV (loadE caps paths r) = .iface 57 (.int .i64 (loadE caps paths r))) := errV_ne hk
    have HK : Hid (okL (loadE caps paths r) (necksL caps paths r) = []) := okL_ne hk _
    have HK2 : Hid (okL (loadE caps paths r) (fullTo caps (loadL paths r caps.length) caps.length) = []) := okL_ne hk _
    rw [HV.out, HK2.out] at HFu
    rw [HV.out, HK.out]
    generalize loadE caps paths r = ek at *
    clear hk
    obtain ⟨v1, v2, rfl, h1, h2⟩ := h
    obtain ⟨a1, cap1, rfl, _⟩ := h1
    obtain ⟨a2, cap2, rfl, _⟩ := h2
    obtain ⟨ar, capr, rfl, _⟩ := hx
    have B0 : Hid (Below w.heap.size w ((w.alloc (.cells #[.slice a1 caps.length cap1, .slice a2 paths.length cap2] 25)).alloc (.cells #[.slice ar r.length capr] 34))) := ((Below.refl _ _).alloc (Nat.le_refl _) _).alloc (by simp) _
    go_enter Tryd.func17, Tryd.ntmps17
    go_wp2_with fail
    refine (HFu.out _ B0.out).mono ?_
    rintro e w1 ⟨y, rfl, hy, hw1⟩
    have HB1 : Hid (Below w.heap.size w w1) := B0.out.trans (hw1.mono (by simp; omega))
    obtain ⟨ay, ny, cy, hys⟩ : ∃ a n c, y = .slice a n c := by obtain ⟨a, c, e, _⟩ := hy; exact ⟨_, _, _, e⟩
    subst hys
    have hs1 : w.heap.size ≤ w1.heap.size := HB1.out.size
    clear hw1 hy
    go_wp2
    refine bodyPost_ret (v := .tuple #[.slice none 0 0, .iface 57 (.int .i64 ek)]) (by simp [results, Tryd.results17, go_sem]) rfl ?_
    exact ⟨_, rfl, ints_nil _ _, HB1.out.alloc hs1 _⟩
end Fl
end Go.Proofs.YtmimfcmpealemadDoor
