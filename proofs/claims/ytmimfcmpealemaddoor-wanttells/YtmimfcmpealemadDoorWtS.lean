/- Package want's Sated: of each flow whether its rate is what it wants. -/
import Derived.Test.YtmimfcmpealemadDoorWtR
import Derived.Test.YtmimfcmpealemadDoorPlains
namespace Go.Proofs.YtmimfcmpealemadDoor
namespace Fl
open Go.RowKit Fr Ns Ld
set_option linter.unusedSimpArgs false
set_option linter.unusedVariables false

/-- who is sated, of the first k; the others are not yet told -/
def satTo (r : List (Int × Int)) (want : List Int) (n k : Nat) : List Bool := (List.range n).map fun f => decide (f < k) && decide (rP r f = (want.getD f 0, 1))
theorem satTo_length (r : List (Int × Int)) (want : List Int) (n k : Nat) : (satTo r want n k).length = n := by simp [satTo]
theorem satTo_0 (r : List (Int × Int)) (want : List Int) (n : Nat) : satTo r want n 0 = List.replicate n false := by
  unfold satTo
  apply List.ext_getElem
  · simp
  · intro i h1 h2; simp
theorem satTo_next (r : List (Int × Int)) (want : List Int) (n k : Nat) (hk : k < n) : boolsV (satTo r want n (k + 1)) = (boolsV (satTo r want n k)).set k (.bool (decide (rP r k = (want.getD k 0, 1)))) := by
  unfold boolsV
  rw [← List.map_set]
  congr 1
  apply List.ext_getElem
  · simp [satTo]
  · intro i h1 h2
    rw [List.getElem_set]
    by_cases e : k = i
    · subst e
      simp [satTo]
    · rw [if_neg e]
      simp only [satTo, List.getElem_map, List.getElem_range]
      congr 1
      by_cases h3 : i < k
      · simp [h3]; omega
      · simp [h3]; omega
theorem satTo_all (caps : List Int) (paths : List (List Int)) (want : List Int) : satTo (wantR caps paths want) want paths.length paths.length = wantS caps paths want := by
  unfold satTo wantS
  apply List.map_congr_left
  intro f hf
  have := List.mem_range.1 hf
  simp [this]

set_option maxRecDepth 100000 in
set_option maxHeartbeats 4000000 in
theorem wsated_said : WSatedSaid := by
  intro Q caps paths want v x w h hx
  have HRa : Hid (∀ u, Below w.heap.size w u → Calls Tryd.prog 12 #[v, x] u fun e w' => ∃ y, e = .returned (.tuple #[y, errV (wantE caps paths want)]) ∧ FracsAt (fun b => u.heap.size ≤ b) w' y (okL (wantE caps paths want) (wantR caps paths want)) ∧ Below u.heap.size u w') := fun u hu => wrates_said Q caps paths want v x u (h.later hu) (hx.later hu)
  by_cases hk : wantE caps paths want = 0
  · have hlr : (wantR caps paths want).length = paths.length := (want_ok hk).len
    obtain ⟨e1, e2, e3⟩ := wantE_0 hk
    have hp6 : paths.length ≤ 6 := (netE_0 e1).2.2.2.1
    have HWc : Hid (∀ i, i < paths.length → ∃ b off, (∃ n c, x = .slice (some ⟨b, off, none⟩) n c) ∧ ∀ u, Below w.heap.size w u → u.cell? ⟨b, off + i, none⟩ = some (.int .i64 (want.getD i 0))) := fun i hi => by
      obtain ⟨a, cap, rfl, _, hc⟩ := hx
      rcases hc with rfl | ⟨b, off, rfl, hc, _⟩
      · simp at e2; omega
      · exact ⟨b, off, ⟨_, _, rfl⟩, fun u hu => cell_later hu (hc i (by omega))⟩
    have HS0 : Hid (boolsV (satTo (wantR caps paths want) want paths.length 0) = boolsV (List.replicate paths.length false)) := by show _ = _; rw [satTo_0]
    have HSn : Hid (∀ k, k < paths.length → boolsV (satTo (wantR caps paths want) want paths.length (k + 1)) = (boolsV (satTo (wantR caps paths want) want paths.length k)).set k (.bool (decide (rP (wantR caps paths want) k = (want.getD k 0, 1))))) := fun k hk => satTo_next _ _ _ k hk
    have HSa : Hid (satTo (wantR caps paths want) want paths.length paths.length = wantS caps paths want) := satTo_all _ _ _
    have HSl : Hid (∀ k, (satTo (wantR caps paths want) want paths.length k).length = paths.length) := fun k => satTo_length _ _ _ k
    rw [hk, errV_0, okL_0] at HRa
    rw [hk, errV_0, okL_0]
    generalize satTo (wantR caps paths want) want paths.length = st at *
    generalize wantS caps paths want = ws at *
    generalize wantR caps paths want = r at *
    obtain ⟨v1, v2, rfl, h1, h2⟩ := h
    obtain ⟨a1, cap1, rfl, _⟩ := h1
    obtain ⟨a2, cap2, rfl, _⟩ := h2
    obtain ⟨a3, cap3, rfl, ⟨hm3, hn3⟩, _⟩ := hx
    obtain ⟨j0, hJ, hy0, hy1, hy2⟩ := info_parts infoBool
    have Hlr : Hid (r.length = paths.length) := hlr
    have He2 : Hid (want.length = paths.length) := e2
    clear hk e1 e3 hlr e2
    go_enter Tryd.func14, Tryd.ntmps14
    go_wp2_with fail
    refine (HRa.out _ ((Below.refl _ _).alloc (Nat.le_refl _) _)).mono ?_
    rintro e w1 ⟨y, rfl, hy, hw1⟩
    have HB1 : Hid (Below w.heap.size w w1) := ((Below.refl _ _).alloc (Nat.le_refl _) _).trans (hw1.mono (by simp))
    have hs1 : w.heap.size < w1.heap.size := by have := hw1.size; simp at this; omega
    obtain ⟨ay, capy, rfl, ⟨hm4, hn4⟩, hcy⟩ := hy
    have HYc : Hid (∀ i, i < paths.length → ∃ b off, ay = some ⟨b, off, none⟩ ∧ ∀ u, Below w1.heap.size w1 u → u.cell? ⟨b, off + i * 2, none⟩ = some (.int .i64 (rP r i).1) ∧ u.cell? ⟨b, off + i * 2 + 1, none⟩ = some (.int .i64 (rP r i).2)) := fun i hi => by
      rcases hcy with rfl | ⟨b, off, rfl, hc, _⟩
      · have := Hlr.out; simp at this; omega
      · have hc' := hc i (by rw [Hlr.out]; exact hi)
        exact ⟨b, off, rfl, fun u hu => ⟨cell_later hu hc'.1, cell_later hu hc'.2⟩⟩
    rw [Hlr.out]
    rw [Hlr.out] at hm4 hn4
    clear hw1 hcy
    go_wp2_with (at_make; go_must (refine wpList_make_full _ rfl _ _ 35 rfl w1.heap.size 4 j0 (.bool false) 1 Tryd.underlying35 hJ hy0 hy1 .i64 .i64 _ _ paths.length rfl rfl rfl rfl ?b2 ?b3 ?b4 ?_))
    case b2 => rw [hy2]; omega
    case b3 => unfold maxLen; omega
    case b4 => simp
    intro w2 hown hgrow
    have hown' : w2.ownsRow w1.heap.size 4 1 (.slice (some ⟨w1.heap.size, 0, none⟩) paths.length paths.length) paths.length (madeCells #[.bool false] paths.length).toList := by simpa using hown
    rw [made_bools] at hown'
    have R1 : Hid (RowAt w2 w1.heap.size 4 (boolsV (st 0))) := by rw [HS0.out]; exact RowAt.of_owns hown'
    have B1 : Hid (Below w1.heap.size w1 w2) := (Below.refl _ _).grown hgrow (Nat.le_refl _) (by intro k hk; cases hk)
    clear hown hgrow hown'
    go_wp2
    go_loopw [9, 10, 25] (fun _ _ i wr => ∃ k : Nat, k ≤ paths.length ∧ i = .int .i64 k ∧ Hid (RowAt wr w1.heap.size 4 (boolsV (st k))) ∧ Hid (Below w1.heap.size w1 wr)) (fun _ _ i _ => paths.length - (intOf i).toNat)
    case atStart => exact ⟨0, by omega, rfl, R1, B1⟩
    case round =>
      obtain ⟨k, hk, rfl, hr, hb⟩ := hrel
      have hz : w1.heap.size < wr.heap.size := hr.out.lt
      by_cases hlt : k < paths.length
      · obtain ⟨b, off, rfl, hcy⟩ := HYc.out k hlt
        obtain ⟨p0, p1⟩ := hcy _ hb.out
        obtain ⟨bw, ow, ⟨_, _, hxe⟩, hcw⟩ := HWc.out k hlt
        simp only [Value.slice.injEq] at hxe
        obtain ⟨rfl, -, -⟩ := hxe
        have HBw : Hid (∀ u, Below w1.heap.size w1 u → Below w.heap.size w u) := fun u hu => HB1.out.trans (hu.mono (by omega))
        have q0 := hcw _ (HBw.out _ hb.out)
        have hsn := HSn.out k hlt
        have hkw : k < want.length := by rw [He2.out]; exact hlt
        have hkw' : (k : Int) < (want.length : Int) := by omega
        generalize want.getD k 0 = wk at *
        generalize rP r k = rk at *
        obtain ⟨r1, r2⟩ := rk
        have c1 := hr.out.cell (bools_cell (done := st k) (m := k) (by rw [HSl.out]; exact hlt))
        have c2 := hr.out.frozen k
        have BW : Below wr.heap.size wr (wr.alloc (.cells #[.int .i64 r1, .int .i64 r2] 39)) := (Below.refl _ _).alloc (Nat.le_refl _) _
        have q1 := cell_later BW q0
        have c3 := cell_later BW c1
        have c4 : (wr.alloc (.cells #[.int .i64 r1, .int .i64 r2] 39)).frozen? ⟨w1.heap.size, k, none⟩ = false := (BW.frozen (p := ⟨w1.heap.size, k, none⟩) hz).trans c2
        have hne : ¬ w1.heap.size = wr.heap.size := by omega
        have hne' : ¬ wr.heap.size = w1.heap.size := by omega
        clear hcy hcw BW
        by_cases x1 : r1 = wk
        · subst x1
          by_cases x2 : r2 = 1
          · subst x2
            have HSk : Hid (boolsV (st (k + 1)) = (boolsV (st k)).set k (.bool true)) := by show _ = _; rw [hsn]; simp
            clear hsn
            go_wp2_with fail
            go_region
            go_wp2
            go_roundw
            case rel =>
              refine ⟨k + 1, by omega, by go_num, ?_, ?_⟩
              · show RowAt _ _ _ _
                rw [HSk.out]
                first | exact (hr.out.alloc _).set k _ | exact (hr.out.set k _).alloc _
              · show Below _ _ _
                repeat (first | exact hb.out | refine Below.setCell ?_ (by simp) _ | refine Below.alloc ?_ (by simp; omega) _ | refine Below.drew ?_)
            case measure => simp [intOf]; omega
          · have HSk : Hid (boolsV (st (k + 1)) = (boolsV (st k)).set k (.bool false)) := by show _ = _; rw [hsn]; simp [x2]
            have x3 : (r2 == 1) = false := beq_eq_false_iff_ne.2 x2
            clear hsn
            go_wp2_with fail
            go_region
            go_wp2
            go_roundw
            case rel =>
              refine ⟨k + 1, by omega, by go_num, ?_, ?_⟩
              · show RowAt _ _ _ _
                rw [HSk.out]
                first | exact (hr.out.alloc _).set k _ | exact (hr.out.set k _).alloc _
              · show Below _ _ _
                repeat (first | exact hb.out | refine Below.setCell ?_ (by simp) _ | refine Below.alloc ?_ (by simp; omega) _ | refine Below.drew ?_)
            case measure => simp [intOf]; omega
        · have HSk : Hid (boolsV (st (k + 1)) = (boolsV (st k)).set k (.bool false)) := by show _ = _; rw [hsn]; simp [x1]
          have x3 : (r1 == wk) = false := beq_eq_false_iff_ne.2 x1
          clear hsn
          go_wp2_with fail
          go_region
          go_wp2
          go_roundw
          case rel =>
            refine ⟨k + 1, by omega, by go_num, ?_, ?_⟩
            · show RowAt _ _ _ _
              rw [HSk.out]
              first | exact (hr.out.alloc _).set k _ | exact (hr.out.set k _).alloc _
            · show Below _ _ _
              repeat (first | exact hb.out | refine Below.setCell ?_ (by simp) _ | refine Below.alloc ?_ (by simp; omega) _ | refine Below.drew ?_)
          case measure => simp [intOf]; omega
      · obtain rfl : k = paths.length := by omega
        have HI : Hid (BoolsAt (fun b => w.heap.size ≤ b) wr (.slice (some ⟨w1.heap.size, 0, none⟩) paths.length paths.length) ws) := by
          have hl : ws.length = paths.length := by rw [← HSa.out]; exact HSl.out _
          rw [HSa.out] at hr
          rw [← hl]
          exact bools_of_owns (base := w1.heap.size) (by omega) (hr.out.owns (Nat.le_refl _) (by simp [boolsV]) (by unfold maxLen; omega)) (fun g hg => by omega)
        have HBB : Hid (Below w.heap.size w wr) := HB1.out.trans (hb.out.mono (by omega))
        go_wp2
        refine bodyPost_ret (v := .tuple #[.slice (some ⟨w1.heap.size, 0, none⟩) paths.length paths.length, .nilIface]) (by simp [results, Tryd.results14, go_sem]) rfl ⟨_, rfl, HI.out, HBB.out⟩
  · have HV : Hid (errV (wantE caps paths want) = .iface 57 (.int .i64 (wantE caps paths want))) := errV_ne hk
    have HK1 : okL (wantE caps paths want) (wantR caps paths want) = [] := okL_ne hk _
    have HK2 : okL (wantE caps paths want) (wantS caps paths want) = [] := okL_ne hk _
    rw [HV.out, HK1] at HRa
    rw [HV.out, HK2]
    generalize wantE caps paths want = ek at *
    clear hk HK1 HK2
    obtain ⟨v1, v2, rfl, h1, h2⟩ := h
    obtain ⟨a1, cap1, rfl, _⟩ := h1
    obtain ⟨a2, cap2, rfl, _⟩ := h2
    obtain ⟨a3, cap3, rfl, _⟩ := hx
    go_enter Tryd.func14, Tryd.ntmps14
    go_wp2_with fail
    refine (HRa.out _ ((Below.refl _ _).alloc (Nat.le_refl _) _)).mono ?_
    rintro e w1 ⟨y, rfl, hy, hw1⟩
    have HB1 : Hid (Below w.heap.size w w1) := ((Below.refl _ _).alloc (Nat.le_refl _) _).trans (hw1.mono (by simp))
    obtain ⟨ay, capy, rfl, _⟩ := hy
    clear hw1
    go_wp2
    refine bodyPost_ret (v := .tuple #[.slice none 0 0, .iface 57 (.int .i64 ek)]) (by simp [results, Tryd.results14, go_sem]) rfl ?_
    exact ⟨_, rfl, bools_nil _ _, HB1.out⟩
end Fl
end Go.Proofs.YtmimfcmpealemadDoor
