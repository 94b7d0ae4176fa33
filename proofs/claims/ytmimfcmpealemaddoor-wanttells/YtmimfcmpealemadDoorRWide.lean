/- The document's Wide (package fairref1): the net that has a link more for each flow. -/
import Derived.Test.YtmimfcmpealemadDoorNetC0
import Derived.Test.YtmimfcmpealemadDoorPlains
import Derived.Maps.AppendAt
namespace Go.Proofs.YtmimfcmpealemadDoor
namespace Fl
open Go.RowKit Fr Ns Ld
set_option linter.unusedSimpArgs false
set_option linter.unusedVariables false

theorem wide_new (w : World) (x : Value) (T : TypeId) : ∀ j u, [x][j]? = some u → (w.alloc (.cells #[x] T)).cell? ((⟨w.heap.size, 0, none⟩ : Addr).add j) = some u := by
  intro j u hj
  match j, hj with
  | 0, hj => simp at hj; subst hj; simp [Addr.add]
/-- what lies behind so many paths: the links, and the rows of those paths, all apart from the row of paths -/
structure WideMem (base : Nat) (w : World) (cv pv : Value) (cs : List Int) (ll : List (List Int)) (k : Nat) : Prop where
  caps : IntsAt (fun b => base ≤ b ∧ pv.ownBlock ≠ some b) w cv cs
  own : ∃ vs, vs.length = k ∧ w.ownsRow base 22 1 pv k vs ∧ ∀ i, i < k → IntsAt (fun b => base ≤ b ∧ pv.ownBlock ≠ some b) w (vs.getD i undef) (ll.getD i [])
theorem owns_grow {w w' : World} {base : Nat} {e : TypeId} {size n : Nat} {v : Value} {xs : List Value} (hb : Below w.heap.size w w') (h : w.ownsRow base e size v n xs) : w'.ownsRow base e size v n xs := by
  refine ⟨h.1, ?_⟩
  rcases h.2 with h' | ⟨g', cap', cur, h', hg, hc, r⟩
  · exact .inl h'
  · have hlt : g' < w.heap.size := (Array.getElem?_eq_some_iff.1 hc).1
    exact .inr ⟨g', cap', cur, h', hg, by rw [hb.block g' hlt]; exact hc, r⟩
theorem WideMem.later {base : Nat} {w w' : World} {cv pv : Value} {cs : List Int} {ll : List (List Int)} {k : Nat} (hb : Below w.heap.size w w') (h : WideMem base w cv pv cs ll k) : WideMem base w' cv pv cs ll k := by
  obtain ⟨h1, vs, h2, h3, h4⟩ := h
  exact ⟨h1.later hb, vs, h2, owns_grow hb h3, fun i hi => (h4 i hi).later hb⟩
theorem WideMem.store {base : Nat} {w : World} {cv pv : Value} {cs : List Int} {ll : List (List Int)} {k : Nat} (h : WideMem base w cv pv cs ll k) {a : Addr} (ha : a.block < base) (u : Value) : WideMem base (w.setCell a u) cv pv cs ll k := by
  obtain ⟨h1, vs, h2, h3, h4⟩ := h
  have hk : ∀ b, (base ≤ b ∧ pv.ownBlock ≠ some b) → b < w.heap.size → (w.setCell a u).heap[b]? = w.heap[b]? := fun b hb _ => Below.heap_setCell w a u b (fun e => by have := hb.1; omega)
  exact ⟨h1.keep hk (fun _ h _ => h), vs, h2, ownsRow_setCell_below h3 ha u, fun i hi => (h4 i hi).keep hk (fun _ h _ => h)⟩
theorem WideMem.append {base : Nat} {w w2 : World} {cv pv pv' p : Value} {cs : List Int} {ll : List (List Int)} {k : Nat} {o : Obj} {vs : List Value} (hc : IntsAt (fun b => base ≤ b ∧ pv.ownBlock ≠ some b) w cv cs) (hvs : vs.length = k) (hv : ∀ i, i < k → IntsAt (fun b => base ≤ b ∧ pv.ownBlock ≠ some b) w (vs.getD i undef) (ll.getD i []))
    (hp : IntsAt (fun b => base ≤ b ∧ pv.ownBlock ≠ some b) w p (ll.getD k [])) (hown : w2.ownsRow base 22 1 pv' (k + 1) (vs ++ [p])) (hg : (w.alloc o).grownBy w2 pv.ownBlock) (hat : pv'.ownBlock = pv.ownBlock ∨ pv'.ownBlock = some (w.alloc o).heap.size) : WideMem base w2 cv pv' cs ll (k + 1) := by
  have hk : ∀ b, (base ≤ b ∧ pv.ownBlock ≠ some b) → b < w.heap.size → w2.heap[b]? = w.heap[b]? := fun b hb hlt => by
    rw [hg.block b (by simp; omega) (fun e => hb.2 e.symm)]
    exact ((Below.refl w.heap.size w).alloc (Nat.le_refl _) o).block b hlt
  have hR : ∀ b, (base ≤ b ∧ pv.ownBlock ≠ some b) → b < w.heap.size → (base ≤ b ∧ pv'.ownBlock ≠ some b) := fun b hb hlt => ⟨hb.1, by
    rcases hat with e | e
    · rw [e]; exact hb.2
    · rw [e]; simp; omega⟩
  refine ⟨hc.keep hk hR, vs ++ [p], by simp [hvs], hown, fun i hi => ?_⟩
  by_cases h : i < k
  · have : (vs ++ [p]).getD i undef = vs.getD i undef := by simp [List.getD, List.getElem?_append_left (show i < vs.length by omega)]
    rw [this]
    exact (hv i h).keep hk hR
  · have e : i = k := by omega
    subst e
    have : (vs ++ [p]).getD i undef = p := by rw [← hvs]; simp [List.getD]
    rw [this]
    exact hp.keep hk hR

set_option maxRecDepth 100000 in
set_option maxHeartbeats 8000000 in
theorem RWide_any {Q : Nat → Prop} (caps : List Int) (paths : List (List Int)) (want : List Int) (v x : Value) (w : World) (h : NetAt Q w v caps paths) (hx : IntsAt Q w x want) (he : wantE caps paths want = 0) :
    Calls Tryd.prog 6 #[v, x] w fun e w' => ∃ y, e = .returned y ∧ NetAt (fun b => w.heap.size ≤ b) w' y (caps ++ want) (wideP caps.length paths) ∧ Below w.heap.size w w' := by
  obtain ⟨e1, e2, e3⟩ := wantE_0 he
  have h0 := netE_0 e1
  have hc6 : caps.length ≤ 6 := h0.2.1
  have hp6 : paths.length ≤ 6 := h0.2.2.2.1
  have hw6 : want.length ≤ 6 := by omega
  have hPl : Hid (∀ i, i < paths.length → (paths.getD i []).length ≤ 6 ∧ paths.getD i [] ≠ []) := fun i hi => by
    have hpe := (pathsFrom_iff _ _).1 h0.2.2.2.2.2 _ (getD_mem paths i hi [])
    exact ⟨by have := pathE_len hpe; omega, ((good_of_net e1).2.1 _ (getD_mem paths i hi [])).1⟩
  have HWp : Hid (∀ i, i < paths.length → (wideP caps.length paths).getD i [] = paths.getD i [] ++ [((caps.length + i : Nat) : Int)]) := fun i hi => wideP_at hi
  have HWl : Hid ((wideP caps.length paths).length = paths.length) := wideP_length _ _
  obtain ⟨v1, v2, rfl, h1, h2⟩ := h
  obtain ⟨a1, cap1, rfl, ⟨hm1, hn1⟩, h1⟩ := h1
  obtain ⟨b1, o1, rfl, hC⟩ : ∃ b off, a1 = some ⟨b, off, none⟩ ∧ ∀ i, i < caps.length → w.cell? ⟨b, off + i, none⟩ = some (.int .i64 (caps.getD i 0)) := by
    rcases h1 with rfl | ⟨b, off, rfl, h, _⟩
    · simp at h0
    · exact ⟨b, off, rfl, h⟩
  have HPp : Hid (∀ i, i < paths.length → ∃ b off, ∃ cap, ∃ bp op, ∃ cp, v2 = .slice (some ⟨b, off, none⟩) paths.length cap ∧ (paths.getD i []).length ≤ cp ∧ ∀ u, Below w.heap.size w u → u.cell? ⟨b, off + i, none⟩ = some (.slice (some ⟨bp, op, none⟩) (paths.getD i []).length cp) ∧ ∀ j, j < (paths.getD i []).length → u.cell? ⟨bp, op + j, none⟩ = some (.int .i64 ((paths.getD i []).getD j 0))) := by
    intro i hi
    obtain ⟨a, cap, e, _, hc⟩ := h2
    rcases hc with rfl | ⟨b, off, rfl, hc, _⟩
    · simp at hi
    · obtain ⟨x, hx, ap, cp, rfl, ⟨hcp, _⟩, hxi⟩ := hc i hi
      rcases hxi with hn | ⟨bp, op, rfl, hxi, _⟩
      · exact absurd hn (hPl.out i hi).2
      · exact ⟨b, off, cap, bp, op, cp, e, hcp, fun u hu => ⟨cell_later hu hx, fun j hj => cell_later hu (hxi j hj)⟩⟩
  obtain ⟨a2, cap2, rfl, ⟨hm2, hn2⟩, _⟩ := h2
  obtain ⟨ax, capx, rfl, ⟨hmx, hnx⟩, hx⟩ := hx
  obtain ⟨bx, ox, rfl, hX⟩ : ∃ b off, ax = some ⟨b, off, none⟩ ∧ ∀ i, i < want.length → w.cell? ⟨b, off + i, none⟩ = some (.int .i64 (want.getD i 0)) := by
    rcases hx with hn | ⟨b, off, rfl, h, _⟩
    · rw [hn] at e2; simp at e2; omega
    · exact ⟨b, off, rfl, h⟩
  have HC : Hid (∀ u, Below w.heap.size w u → ∀ j z, (caps.map (Value.int .i64))[j]? = some z → u.cell? ((⟨b1, o1, none⟩ : Addr).add j) = some z) := fun u hu => cells_ints (fun i hi => cell_later hu (hC i hi))
  have HX : Hid (∀ u, Below w.heap.size w u → ∀ j z, (want.map (Value.int .i64))[j]? = some z → u.cell? ((⟨bx, ox, none⟩ : Addr).add j) = some z) := fun u hu => cells_ints (fun i hi => cell_later hu (hX i hi))
  generalize wideP caps.length paths = WP at *
  obtain ⟨i0, hi, hz0, hz1, hz2⟩ := info_parts infoInt
  obtain ⟨j0, hJ, hy0, hy1, hy2⟩ := info_parts infoInts
  clear h1 hx hC hX he e1 e2 e3 h0
  have B3 : Hid (Below w.heap.size w (((w.alloc (.cells #[.slice (some ⟨b1, o1, none⟩) caps.length cap1, .slice a2 paths.length cap2] 25)).alloc (.cells #[.slice none 0 0, .slice none 0 0] 25)).alloc (.cells #[.slice none 0 0, .slice none 0 0] 25))) := ((((Below.refl _ _).alloc (Nat.le_refl _) _).alloc (by simp) _).alloc (by simp; omega) _)
  go_enter Tryd.func6, Tryd.ntmps6
  go_wp2_with (at_builtin; go_must (refine wpList_append_own _ rfl (.tmp 9) (.tmp 11) 22 rfl (w.heap.size + 1 + 1 + 1) 3 i0 (.int .i64 0) 1 8 Tryd.underlying22 hi hz0 hz1 hz2 rfl (by decide) _ _ _ rfl (World.ownsRow_nil _ _ _ _) ⟨b1, o1, none⟩ caps.length cap1 (caps.map (Value.int .i64)) rfl (by simp) (HC.out _ B3.out) (ones_ints _) (by unfold maxLen; omega) (by omega) (by simp) ?_))
  intro x1 w1 hown1 hgrow1 _
  replace hown1 : w1.ownsRow (w.heap.size + 1 + 1 + 1) 3 1 x1 caps.length (caps.map (Value.int .i64)) := by simpa using hown1
  have Bel1 : Below (w.heap.size + 1 + 1 + 1) (((w.alloc (.cells #[.slice (some ⟨b1, o1, none⟩) caps.length cap1, .slice a2 paths.length cap2] 25)).alloc (.cells #[.slice none 0 0, .slice none 0 0] 25)).alloc (.cells #[.slice none 0 0, .slice none 0 0] 25)) w1 := (Below.refl (w.heap.size + 1 + 1 + 1) _).grown hgrow1 (by simp) (by intro k hk; cases hk)
  have RM0 : RowAt (((w.alloc (.cells #[.slice (some ⟨b1, o1, none⟩) caps.length cap1, .slice a2 paths.length cap2] 25)).alloc (.cells #[.slice none 0 0, .slice none 0 0] 25)).alloc (.cells #[.slice none 0 0, .slice none 0 0] 25)) (w.heap.size + 1 + 1) 25 [.slice none 0 0, .slice none 0 0] := by
    have := RowAt.new ((w.alloc (.cells #[.slice (some ⟨b1, o1, none⟩) caps.length cap1, .slice a2 paths.length cap2] 25)).alloc (.cells #[.slice none 0 0, .slice none 0 0] 25)) #[.slice none 0 0, .slice none 0 0] 25
    simpa using this
  have RM1 : RowAt w1 (w.heap.size + 1 + 1) 25 [.slice none 0 0, .slice none 0 0] := RM0.later Bel1 (by omega)
  have m0 := RM1.cell (i := 0) rfl
  have m1 := RM1.cell (i := 1) rfl
  have f0 := RM1.frozen 0
  obtain ⟨a1', n1', c1', hx1⟩ : ∃ a n c, x1 = .slice a n c := by
    rcases hown1.2 with ⟨rfl, _⟩ | ⟨g, cap, cur, rfl, _⟩
    · exact ⟨_, _, _, rfl⟩
    · exact ⟨_, _, _, rfl⟩
  subst hx1
  have HO1 : Hid (w1.ownsRow (w.heap.size + 1 + 1 + 1) 3 1 (.slice a1' n1' c1') caps.length (caps.map (Value.int .i64))) := hown1
  have HBe1 : Hid (Below (w.heap.size + 1 + 1 + 1) (((w.alloc (.cells #[.slice (some ⟨b1, o1, none⟩) caps.length cap1, .slice a2 paths.length cap2] 25)).alloc (.cells #[.slice none 0 0, .slice none 0 0] 25)).alloc (.cells #[.slice none 0 0, .slice none 0 0] 25)) w1) := Bel1
  have HRM1 : Hid (RowAt w1 (w.heap.size + 1 + 1) 25 [.slice none 0 0, .slice none 0 0]) := RM1
  have hs1 : w.heap.size + 1 + 1 + 1 ≤ w1.heap.size := by have := Bel1.size; simpa using this
  have Bw1 : Hid (Below w.heap.size w (w1.setCell ⟨(w.heap.size + 1 + 1), 0, none⟩ (.slice a1' n1' c1'))) := (B3.out.trans (Bel1.mono (by omega))).setCell (by simp; omega) _
  clear hown1 hgrow1 Bel1 RM0 RM1
  go_wp2_with (at_builtin; go_must (refine wpList_append_own _ rfl (.tmp 15) (.tmp 16) 22 rfl (w.heap.size + 1 + 1 + 1) 3 i0 (.int .i64 0) 1 8 Tryd.underlying22 hi hz0 hz1 hz2 rfl (by decide) _ _ _ rfl (ownsRow_setCell_below HO1.out (by simp) _) ⟨bx, ox, none⟩ want.length capx (want.map (Value.int .i64)) rfl (by simp) (HX.out _ Bw1.out) (ones_ints _) (by unfold maxLen; omega) (by omega) (by simp; omega) ?_))
  intro x2 w2 hown2 hgrow2 _
  replace hown2 : w2.ownsRow (w.heap.size + 1 + 1 + 1) 3 1 x2 (caps ++ want).length ((caps ++ want).map (Value.int .i64)) := by simpa using hown2
  have Bel2 : Below (w.heap.size + 1 + 1 + 1) (w1.setCell ⟨(w.heap.size + 1 + 1), 0, none⟩ (.slice a1' n1' c1')) w2 := (Below.refl _ _).grown hgrow2 (by simp; omega) (fun k hk => (HO1.out.lt k hk).1)
  have RM2 : RowAt w2 (w.heap.size + 1 + 1) 25 [.slice a1' n1' c1', .slice none 0 0] := by
    have := (HRM1.out.set 0 (.slice a1' n1' c1')).later Bel2 (by omega)
    simpa using this
  have m0' := RM2.cell (i := 0) rfl
  have m1' := RM2.cell (i := 1) rfl
  have f0' := RM2.frozen 0
  have HRS : Hid (RowAt (w2.setCell ⟨(w.heap.size + 1 + 1), 0, none⟩ x2) (w.heap.size + 1 + 1) 25 [x2, .slice none 0 0]) := by
    show RowAt _ _ _ _
    simpa using RM2.set 0 x2
  have HBS : Hid (Below (w.heap.size + 1 + 1) (((w.alloc (.cells #[.slice (some ⟨b1, o1, none⟩) caps.length cap1, .slice a2 paths.length cap2] 25)).alloc (.cells #[.slice none 0 0, .slice none 0 0] 25)).alloc (.cells #[.slice none 0 0, .slice none 0 0] 25)) (w2.setCell ⟨(w.heap.size + 1 + 1), 0, none⟩ x2)) := (((HBe1.out.mono (by omega)).setCell (by simp) _).trans (Bel2.mono (by omega))).setCell (by simp) _
  have HMS : Hid (WideMem (w.heap.size + 1 + 1 + 1) (w2.setCell ⟨(w.heap.size + 1 + 1), 0, none⟩ x2) x2 (.slice none 0 0) (caps ++ want) WP 0) := by
    refine WideMem.store ⟨ints_of_owns (by simp; omega) hown2 (fun g hg => ⟨hg, by simp [Value.ownBlock]⟩), [], rfl, World.ownsRow_nil _ _ _ _, fun i hi => by simp at hi⟩ (by simp) _
  obtain ⟨a2', n2', c2', hx2⟩ : ∃ a n c, x2 = .slice a n c := by
    rcases hown2.2 with ⟨rfl, _⟩ | ⟨g, cap, cur, rfl, _⟩
    · exact ⟨_, _, _, rfl⟩
    · exact ⟨_, _, _, rfl⟩
  subst hx2
  clear hown2 hgrow2 Bel2 RM2 m0 m1 f0
  go_wp2
  go_loopw [6, 7] (fun s6 _ wq => ∃ (k : Nat) (cv pv : Value), k ≤ paths.length ∧ s6 = .int .i64 k ∧ Hid (RowAt wq (w.heap.size + 1 + 1) 25 [cv, pv]) ∧ Hid (WideMem (w.heap.size + 1 + 1 + 1) wq cv pv (caps ++ want) WP k) ∧ Hid (Below (w.heap.size + 1 + 1) (((w.alloc (.cells #[.slice (some ⟨b1, o1, none⟩) caps.length cap1, .slice a2 paths.length cap2] 25)).alloc (.cells #[.slice none 0 0, .slice none 0 0] 25)).alloc (.cells #[.slice none 0 0, .slice none 0 0] 25)) wq)) (fun s6 _ _ => paths.length - (intOf s6).toNat)
  case atStart => exact ⟨0, _, _, by omega, rfl, HRS, HMS, HBS⟩
  case round =>
    obtain ⟨k, cv, pv, hk, rfl, hr, hm, hb⟩ := hrel
    have hsr : w.heap.size + 1 + 1 + 1 ≤ wr.heap.size := by have := hr.out.lt; omega
    have g0 : wr.cell? ⟨w.heap.size, 0, none⟩ = some (.slice (some ⟨b1, o1, none⟩) caps.length cap1) := (hb.out.cell (p := ⟨w.heap.size, 0, none⟩) (by simp; omega)).trans (by go_simp)
    have g1 : wr.cell? ⟨w.heap.size, 1, none⟩ = some (.slice a2 paths.length cap2) := (hb.out.cell (p := ⟨w.heap.size, 1, none⟩) (by simp; omega)).trans (by go_simp)
    have Bw : Hid (Below w.heap.size w wr) := B3.out.trans (hb.out.mono (by omega))
    by_cases hlt : k < paths.length
    · obtain ⟨bq, oq, cq, bp, op, cp, e, hcp, hpp⟩ := HPp.out k hlt
      simp only [Value.slice.injEq] at e
      obtain ⟨rfl, _, rfl⟩ := e
      obtain ⟨q0, hpc⟩ := hpp _ Bw.out
      have hpl := (hPl.out k hlt).1
      have HPk : Hid (WP.getD k [] = paths.getD k [] ++ [((caps.length + k : Nat) : Int)]) := HWp.out k hlt
      have HPc : Hid (∀ j z, ((paths.getD k []).map (Value.int .i64))[j]? = some z → wr.cell? ((⟨bp, op, none⟩ : Addr).add j) = some z) := cells_ints hpc
      generalize paths.getD k [] = pk at *
      clear hpp hpc
      go_wp2_with (at_builtin; go_must (refine wpList_append_own _ rfl (.tmp 26) (.tmp 31) 22 rfl wr.heap.size 3 i0 (.int .i64 0) 1 8 Tryd.underlying22 hi hz0 hz1 hz2 rfl (by decide) _ _ _ rfl (World.ownsRow_nil _ _ _ _) ⟨bp, op, none⟩ pk.length cp (pk.map (Value.int .i64)) rfl (by simp) HPc.out (ones_ints _) (by unfold maxLen; omega) (by omega) (Nat.le_refl _) ?_))
      intro p1 w3 hown3 hgrow3 _
      replace hown3 : w3.ownsRow wr.heap.size 3 1 p1 pk.length (pk.map (Value.int .i64)) := by simpa using hown3
      have B3' : Hid (Below wr.heap.size wr w3) := (Below.refl _ _).grown hgrow3 (Nat.le_refl _) (by intro k hk; cases hk)
      have HO3 : Hid (w3.ownsRow wr.heap.size 3 1 p1 pk.length (pk.map (Value.int .i64))) := hown3
      have k0 := cell_later B3'.out g0
      have k1 := cell_later B3'.out g1
      have hs3 : wr.heap.size ≤ w3.heap.size := B3'.out.size
      obtain ⟨a3', n3', c3', hx3⟩ : ∃ a n c, p1 = .slice a n c := by
        rcases hown3.2 with ⟨rfl, _⟩ | ⟨g, cap, cur, rfl, _⟩
        · exact ⟨_, _, _, rfl⟩
        · exact ⟨_, _, _, rfl⟩
      subst hx3
      clear hown3 hgrow3
      go_wp2_with (at_builtin; go_must (refine wpList_append_own _ rfl (.tmp 33) (.tmp 39) 22 rfl wr.heap.size 3 i0 (.int .i64 0) 1 8 Tryd.underlying22 hi hz0 hz1 hz2 rfl (by decide) _ _ _ rfl (HO3.out.alloc _) ⟨w3.heap.size, 0, none⟩ 1 1 [.int .i64 (caps.length + k)] rfl rfl (wide_new _ _ _) (by intro u hu; simp at hu; subst hu; rfl) (by unfold maxLen; omega) (by omega) (by simp; omega) ?_))
      intro p2 w4 hown4 hgrow4 _
      have B4 : Hid (Below wr.heap.size wr w4) := rel_append B3'.out hs3 HO3.out hgrow4
      have HP4 : Hid (IntsAt (fun b => wr.heap.size ≤ b) w4 p2 (WP.getD k [])) := by
        rw [HPk.out]
        exact ints_of_owns (base := wr.heap.size) (by simp; omega) (by simpa using hown4) (fun g hg => hg)
      have HM4 := hm.out.later B4.out
      have HR4 : Hid (RowAt w4 (w.heap.size + 1 + 1) 25 [cv, pv]) := hr.out.later B4.out (by omega)
      have k2 := HR4.out.cell (i := 1) rfl
      have k3 := HR4.out.cell (i := 0) rfl
      have hs4 : wr.heap.size ≤ w4.heap.size := B4.out.size
      obtain ⟨m1, vs, hvs, hov, hvi⟩ := HM4
      have HPv : Hid (pv.ownBlock = none ∨ ∃ g, pv.ownBlock = some g ∧ g < wr.heap.size) := by
        obtain ⟨_, vs', _, ho', _⟩ := hm.out
        cases hq : pv.ownBlock with
        | none => exact .inl rfl
        | some g => exact .inr ⟨g, rfl, (ho'.lt g hq).2⟩
      have HPq : Hid (IntsAt (fun b => w.heap.size + 1 + 1 + 1 ≤ b ∧ pv.ownBlock ≠ some b) w4 p2 (WP.getD k [])) := HP4.out.keep (fun _ _ _ => rfl) (fun b hb _ => ⟨by omega, by
        rcases HPv.out with e | ⟨g, e, hg⟩
        · rw [e]; simp
        · rw [e]; simp; omega⟩)
      obtain ⟨a4', n4', c4', hx4⟩ : ∃ a n c, p2 = .slice a n c := by obtain ⟨a, c, e, _⟩ := HP4.out; exact ⟨_, _, _, e⟩
      subst hx4
      obtain ⟨av, nv, cvv, hxv⟩ : ∃ a n c, pv = .slice a n c := by
        rcases hov.2 with ⟨e, _⟩ | ⟨g, cap, cur, e, _⟩
        · exact ⟨_, _, _, e⟩
        · exact ⟨_, _, _, e⟩
      subst hxv
      have HOv : Hid (w4.ownsRow (w.heap.size + 1 + 1 + 1) 22 1 (.slice av nv cvv) k vs) := hov
      have HVi : Hid (∀ i, i < k → IntsAt (fun b => w.heap.size + 1 + 1 + 1 ≤ b ∧ Value.ownBlock (.slice av nv cvv) ≠ some b) w4 (vs.getD i undef) (WP.getD i [])) := hvi
      have HM1 : Hid (IntsAt (fun b => w.heap.size + 1 + 1 + 1 ≤ b ∧ Value.ownBlock (.slice av nv cvv) ≠ some b) w4 cv (caps ++ want)) := m1
      clear hown4 hgrow4 hov hvi m1 k0 k1 g0 g1 q0
      go_wp2_with (at_builtin; go_must (refine wpList_append_own_at _ rfl (.tmp 42) (.tmp 44) 23 rfl (w.heap.size + 1 + 1 + 1) 22 j0 (.slice none 0 0) 1 24 Tryd.underlying23 hJ hy0 hy1 hy2 rfl (by decide) _ _ _ rfl (HOv.out.alloc _) ⟨w4.heap.size, 0, none⟩ 1 1 [.slice a4' n4' c4'] rfl rfl (wide_new _ _ _) (by intro u hu; simp at hu; subst hu; rfl) (by unfold maxLen; omega) (by omega) (by simp; omega) ?_))
      intro pv' w5 hown5 hgrow5 _ hat5
      have B5 : Below (w.heap.size + 1 + 1 + 1) w4 w5 := rel_append (Below.refl _ _) (by omega) HOv.out hgrow5
      have HM5 := WideMem.append HM1.out hvs HVi.out HPq.out hown5 hgrow5 (by simpa using hat5)
      have HR5 : RowAt w5 (w.heap.size + 1 + 1) 25 [cv, .slice av nv cvv] := HR4.out.later B5 (by omega)
      have t0 := HR5.cell (i := 1) rfl
      have t1 := HR5.frozen 1
      have R1 : Hid (RowAt (w5.setCell ⟨(w.heap.size + 1 + 1), 1, none⟩ pv') (w.heap.size + 1 + 1) 25 [cv, pv']) := by
        show RowAt _ _ _ _
        simpa using HR5.set 1 pv'
      have R2 : Hid (WideMem (w.heap.size + 1 + 1 + 1) (w5.setCell ⟨(w.heap.size + 1 + 1), 1, none⟩ pv') cv pv' (caps ++ want) WP (k + 1)) := HM5.store (by simp) _
      have R3 : Hid (Below (w.heap.size + 1 + 1) _ (w5.setCell ⟨w.heap.size + 1 + 1, 1, none⟩ pv')) := ((hb.out.trans (B4.out.mono (by omega))).trans (B5.mono (by omega))).setCell (by simp) _
      obtain ⟨a5', n5', c5', hx5⟩ : ∃ a n c, pv' = .slice a n c := by
        rcases hown5.2 with ⟨rfl, _⟩ | ⟨g, cap, cur, rfl, _⟩
        · exact ⟨_, _, _, rfl⟩
        · exact ⟨_, _, _, rfl⟩
      subst hx5
      clear hown5 hgrow5 hat5 HM5 HR5 B5
      go_wp2
      go_roundw
      case rel => exact ⟨k + 1, _, _, by omega, by go_num, R1, R2, R3⟩
      case measure => simp [intOf]; omega
    · obtain rfl : k = paths.length := by omega
      obtain ⟨ac, nc, cc, hxc⟩ : ∃ a n c, cv = .slice a n c := by obtain ⟨a, c, e, _⟩ := hm.out.caps; exact ⟨_, _, _, e⟩
      obtain ⟨av, nv, cvv, hxv⟩ : ∃ a n c, pv = .slice a n c := by
        obtain ⟨_, vs, _, hov, _⟩ := hm.out
        rcases hov.2 with ⟨e, _⟩ | ⟨g, cap, cur, e, _⟩
        · exact ⟨_, _, _, e⟩
        · exact ⟨_, _, _, e⟩
      subst hxc hxv
      have n0 := hr.out.cell (i := 0) rfl
      have n1 := hr.out.cell (i := 1) rfl
      have R4 : RowAt wr (w.heap.size + 1) 25 [.slice none 0 0, .slice none 0 0] := by
        have R0 : RowAt (((w.alloc (.cells #[.slice (some ⟨b1, o1, none⟩) caps.length cap1, .slice a2 paths.length cap2] 25)).alloc (.cells #[.slice none 0 0, .slice none 0 0] 25)).alloc (.cells #[.slice none 0 0, .slice none 0 0] 25)) (w.heap.size + 1) 25 [.slice none 0 0, .slice none 0 0] := by
          have := (RowAt.new (w.alloc (.cells #[.slice (some ⟨b1, o1, none⟩) caps.length cap1, .slice a2 paths.length cap2] 25)) #[.slice none 0 0, .slice none 0 0] 25).alloc (.cells #[.slice none 0 0, .slice none 0 0] 25)
          simpa using this
        exact R0.later hb.out (by omega)
      have r0 := R4.cell (i := 0) rfl
      have r1 := R4.cell (i := 1) rfl
      have s0 := R4.frozen 0
      have s1 := R4.frozen 1
      have HME : Hid (WideMem (w.heap.size + 1 + 1 + 1) ((wr.setCell ⟨w.heap.size + 1, 0, none⟩ (.slice ac nc cc)).setCell ⟨w.heap.size + 1, 1, none⟩ (.slice av nv cvv)) (.slice ac nc cc) (.slice av nv cvv) (caps ++ want) WP paths.length) := (hm.out.store (by simp) _).store (by simp) _
      have HBE : Hid (Below w.heap.size w ((wr.setCell ⟨w.heap.size + 1, 0, none⟩ (.slice ac nc cc)).setCell ⟨w.heap.size + 1, 1, none⟩ (.slice av nv cvv))) := (Bw.out.setCell (by simp) _).setCell (by simp) _
      clear R4
      go_wp2
      refine bodyPost_ret (v := .agg #[.slice ac nc cc, .slice av nv cvv]) (by simp [results, Tryd.results6, go_sem, n0, n1, r0, r1, s0, s1]) rfl ⟨_, rfl, ?_, HBE.out⟩
      obtain ⟨m1, vs, hvs, hov, hvi⟩ := HME.out
      refine ⟨_, _, rfl, m1.keep (fun _ _ _ => rfl) (fun b hb _ => by omega), ?_⟩
      exact lists_of_owns (base := w.heap.size + 1 + 1 + 1) (vs := vs) (by rw [HWl.out]; omega) (by rw [HWl.out]; exact hvs) (by rw [HWl.out]; exact hov) (fun i hi => (hvi i (by rw [HWl.out] at hi; exact hi)).keep (fun _ _ _ => rfl) (fun b hb _ => by omega)) (fun g hg => by omega)
end Fl
end Go.Proofs.YtmimfcmpealemadDoor
