/- Package log's behind: the flows as a record leaves them, in a row of the log's own. -/
import Derived.Test.YtpnmmmlckdkcdakGreatDoorPlains
import Derived.Test.YtpnmmmlckdkcdakGreatDoorNetF
import Derived.Maps.AppendAt
namespace Go.Proofs.YtpnmmmlckdkcdakGreatDoor
namespace Ev
open Go.RowKit Fr Ns Fl
set_option linter.unusedSimpArgs false
set_option linter.unusedVariables false

theorem row_setCells {g : Nat} {T : TypeId} : ∀ (vs : List Value) (o : Nat) (w : World) (xs : List Value), RowAt w g T xs → o + vs.length ≤ xs.length → RowAt (w.setCells g o vs) g T (xs.take o ++ (vs ++ xs.drop (o + vs.length))) := by
  intro vs
  induction vs with
  | nil => intro o w xs h _; simpa [World.setCells] using h
  | cons v r ih =>
    intro o w xs h hl
    simp only [List.length_cons] at hl
    have := ih (o + 1) _ _ (h.set o v) (by simp; omega)
    have e : (xs.set o v).take (o + 1) ++ (r ++ (xs.set o v).drop (o + 1 + r.length)) = xs.take o ++ (v :: r ++ xs.drop (o + (v :: r).length)) := by
      rw [List.drop_set_of_lt (by omega), List.take_set, List.take_add_one, List.getElem?_eq_getElem (show o < xs.length by omega)]
      simp only [Option.toList_some, List.length_cons]
      rw [List.set_append_right _ _ (by simp; omega)]
      simp [show o - min o xs.length = 0 by omega, show o + 1 + r.length = o + (r.length + 1) by omega]
    rw [e] at this
    exact this
/-- one is taken out of a row -/
theorem own_without {w : World} {R n c k : Nat} {T : TypeId} {vs : List Value} {z : Value} (h : w.ownsRow 0 T 1 (.slice (some ⟨R, 0, none⟩) n c) n vs) (hk : k < n) :
    ((w.drew.setCells R (0 + k * 1) (vs.drop (k + 1))).setCells R (0 + (k + (n - (k + 1)))) [z]).ownsRow 0 T 1 (.slice (some ⟨R, 0, none⟩) (n - 1) c) (n - 1) (vs.take k ++ vs.drop (k + 1)) := by
  have hl : vs.length = n := by have := h.1; omega
  rcases h.2 with ⟨e, _⟩ | ⟨g, cap, cur, e, hb, hg, hc, hm, hs, ht⟩
  · simp at e
  · simp only [Value.slice.injEq, Option.some.injEq, Addr.mk.injEq, and_true, true_and] at e
    obtain ⟨rfl, rfl⟩ := e
    have hr : RowAt w.drew R T cur.toList := by show w.heap[R]? = _; rw [hg]
    have hcl : cur.toList.length = c := by simp [hs]
    have hdl : (vs.drop (k + 1)).length = n - (k + 1) := by rw [List.length_drop, hl]
    have r1 := row_setCells (vs.drop (k + 1)) (0 + k * 1) _ _ hr (by rw [hdl, hcl]; omega)
    have r2 := row_setCells [z] (0 + (k + (n - (k + 1)))) _ _ r1 (by simp [hcl, hdl]; omega)
    have ht' : cur.toList.take k = vs.take k := by rw [← ht, List.take_take, Nat.min_eq_left (by omega)]
    have e1 : 0 + k * 1 = k := by omega
    have e2 : 0 + (k + (n - (k + 1))) = n - 1 := by omega
    rw [e1, e2] at r2 ⊢
    rw [ht'] at r2
    have htl : (vs.take k).length = k := by rw [List.length_take]; omega
    have hxl : (vs.take k ++ vs.drop (k + 1)).length = n - 1 := by rw [List.length_append, htl, hdl]; omega
    have e3 : (vs.take k ++ (vs.drop (k + 1) ++ cur.toList.drop (k + (vs.drop (k + 1)).length))).take (n - 1) = vs.take k ++ vs.drop (k + 1) := by
      rw [← List.append_assoc]
      exact List.take_left' hxl
    rw [e3] at r2
    unfold RowAt at r2
    refine ⟨by omega, .inr ⟨R, c, _, rfl, Nat.zero_le _, r2, by omega, hm, ?_, ?_⟩⟩
    · simp only [List.size_toArray, List.length_append, hxl, List.length_drop, hcl, List.length_singleton, htl, hdl]
      omega
    · rw [Nat.mul_one]
      exact List.take_left' hxl
theorem drew_butIn {F : Nat → Prop} {w w' : World} (h : Below 0 w w') (hk : ∀ b, b < w.heap.size → ¬ F b → w'.heap[b]? = w.heap[b]?) : ButIn F w w' := ⟨h, hk⟩
theorem ones_of {w : World} {Q : Nat → Prop} {v : Value} {f : Flows} {ws : List Value} (h : OwnLs w Q v f ws) : ∀ u ∈ ws, u.oneCell' = true :=
  ones (by have := h.row.1; omega) h.each

set_option maxRecDepth 100000 in
set_option maxHeartbeats 2000000 in
theorem lbehind_drop {Q : Nat → Prop} (v : Value) (f : Flows) (ws : List Value) (r : List Nat) (gr og cr : Nat) (w : World) (h : OwnLs w Q v f ws) (hr : ∀ k, k < r.length → w.cell? ⟨gr, og + k, none⟩ = some (.int .u8 (r.getD k 0 : Nat))) (hm : MayR f r) (hcr : r.length ≤ cr) (h0 : r.getD 0 0 = 0) (hf : f.length ≤ 6) :
    Calls Tryz.prog 31 #[v, .slice (some ⟨gr, og, none⟩) r.length cr] w fun e w' => ∃ v' ws', e = .returned v' ∧ OwnLs w' (newQ Q w w') v' (recStep f r) ws' ∧ ButIn (fun b => v.ownBlock = some b) w w' ∧ (∀ b, v'.ownBlock = some b → v.ownBlock = some b ∨ w.heap.size ≤ b) := by
  have hk := hm.2.1 h0
  have h2 := hm.1.1
  have h1 := hm.1.2.2.2
  have b1 : r.getD 1 0 ≤ 255 := h1 _ (by rw [List.getD, List.getElem?_eq_getElem (by omega)]; exact List.getElem_mem _)
  have c0 := hr 0 (by omega)
  have c1 := hr 1 (by omega)
  have hst : recStep f r = f.take (r.getD 1 0) ++ f.drop (r.getD 1 0 + 1) := by unfold recStep lessF; rw [if_pos h0]; simp
  rw [hst]
  rw [Nat.add_zero, h0] at c0
  obtain ⟨a, c, rfl⟩ := owns_shape h.row
  rcases own_cellL h.row with ⟨e, _⟩ | ⟨R, rfl, hnc, hcm, hfz, hcell⟩
  · omega
  have hwl : ws.length = f.length := by have := h.row.1; omega
  have HD : Hid (Calls Tryz.prog 64 #[.slice (some ⟨R, 0, none⟩) f.length c, .int .i64 (r.getD 1 0 : Nat), .int .i64 ((r.getD 1 0 : Nat) + 1)] w fun e w' => e = .returned (.slice (some ⟨R, 0, none⟩) (f.length - 1) c) ∧
      ∃ z, w' = (w.drew.setCells R (0 + r.getD 1 0 * 1) (ws.drop (r.getD 1 0 + 1))).setCells R (0 + (r.getD 1 0 + (f.length - (r.getD 1 0 + 1)))) [z]) :=
    Delete_at R 0 f.length c (r.getD 1 0) (r.getD 1 0 + 1) ws w hwl (fun i hi => by
      rw [Nat.zero_add]
      exact hcell i _ (by simp [List.getD, List.getElem?_eq_getElem (show i < ws.length by omega)])) (fun i _ => by rw [Nat.zero_add]; exact hfz i) (ones_of h) rfl hk hnc (by simpa [maxLen] using hcm)
  have HE : Hid (∀ z w', w' = (w.drew.setCells R (0 + r.getD 1 0 * 1) (ws.drop (r.getD 1 0 + 1))).setCells R (0 + (r.getD 1 0 + (f.length - (r.getD 1 0 + 1)))) [z] → ∃ ws', OwnLs w' (newQ Q w w') (.slice (some ⟨R, 0, none⟩) (f.length - 1) c) (f.take (r.getD 1 0) ++ f.drop (r.getD 1 0 + 1)) ws' ∧ ButIn (fun b => Value.ownBlock (.slice (some ⟨R, 0, none⟩) f.length c) = some b) w w' ∧ (∀ b, Value.ownBlock (.slice (some ⟨R, 0, none⟩) (f.length - 1) c) = some b → Value.ownBlock (.slice (some ⟨R, 0, none⟩) f.length c) = some b ∨ w.heap.size ≤ b)) := by
    rintro z w' rfl
    generalize r.getD 1 0 = k at *
    have hll : (f.take k ++ f.drop (k + 1)).length = f.length - 1 := by rw [List.length_append, List.length_take, List.length_drop]; omega
    have hB : Below 0 w ((w.drew.setCells R (0 + k * 1) (ws.drop (k + 1))).setCells R (0 + (k + (f.length - (k + 1)))) [z]) :=
      (((Below.refl 0 w).drew).trans (Lib.below_setCells_w (Nat.zero_le _) _ _ _)).trans (Lib.below_setCells_w (Nat.zero_le _) _ _ _)
    have e0 : w.heap.size ≤ (w.drew.setCells R (0 + k * 1) (ws.drop (k + 1))).heap.size := (Lib.below_setCells_w (B := R) (Nat.le_refl _) (ws.drop (k + 1)) (0 + k * 1) w.drew).size
    have hK : ∀ b, b < w.heap.size → b ≠ R → ((w.drew.setCells R (0 + k * 1) (ws.drop (k + 1))).setCells R (0 + (k + (f.length - (k + 1)))) [z]).heap[b]? = w.heap[b]? := fun b hlt hb => by
      rw [World.heap_setCells_other _ R _ _ (by omega) hb, World.heap_setCells_other _ R _ _ (by exact hlt) hb]
      rfl
    refine ⟨ws.take k ++ ws.drop (k + 1), ⟨?_, fun i hi => ?_, fun b hb => .inl (h.own b hb)⟩, ⟨hB, fun b hlt hb => hK b hlt (fun e => hb (by rw [e]; rfl))⟩, fun b hb => .inl hb⟩
    · rw [hll]; exact own_without h.row hk
    · rw [hll] at hi
      rw [getD_without f k i hk, getD_without ws k i (by omega)]
      refine (h.each _ (by split <;> omega)).keep (fun b hb hlt => hK b hlt (fun e => hb.2 (by rw [e]; rfl))) (fun b hb _ => ⟨.inl hb.1, hb.2⟩)
  have q1 : IntKind.i64.wrap ((r.getD 1 0 : Nat) : Int) = (r.getD 1 0 : Nat) := by rw [IntKind.wrap_i64]; omega
  have q2 : IntKind.i64.wrap (((r.getD 1 0 : Nat) : Int) + 1) = ((r.getD 1 0 : Nat) : Int) + 1 := by rw [IntKind.wrap_i64]; omega
  clear h hr hm h0 hf hk h1 hst hcell hwl hfz
  generalize r.getD 1 0 = k at *
  go_enter Tryz.func31, Tryz.ntmps31
  go_wp2_with fail
  refine HD.out.mono ?_
  rintro e w1 ⟨rfl, z, hw1⟩
  obtain ⟨ws', hE⟩ := HE.out z w1 hw1
  have HE1 : Hid _ := hE
  clear hw1 hE c0 c1
  go_wp2
  go_ret
  exact ⟨_, ws', rfl, HE1.out⟩

theorem add_path {w w1 w2 : World} {Q : Nat → Prop} {v v' : Value} {f : Flows} {ws : List Value} {p : List Int} {o : Obj} (h : OwnLs w Q v f ws) (hB : Below w.heap.size w w1) (hr : RowAt w1 w.heap.size 3 (p.map (Value.int .i64))) (hp : p.length ≤ 6)
    (ho : w2.ownsRow 0 22 1 v' (f.length + 1) (ws ++ [.slice (some ⟨w.heap.size, 0, none⟩) p.length p.length])) (hg : (w1.alloc o).grownBy w2 v.ownBlock) (hat : v'.ownBlock = v.ownBlock ∨ v'.ownBlock = some (w1.heap.size + 1)) :
    OwnLs w2 (newQ Q w w2) v' (f ++ [p]) (ws ++ [.slice (some ⟨w.heap.size, 0, none⟩) p.length p.length]) ∧ ButIn (fun b => v.ownBlock = some b) w w2 ∧ (∀ b, v'.ownBlock = some b → v.ownBlock = some b ∨ w.heap.size ≤ b) := by
  have hz := hB.size
  have hlt := hr.lt
  have hwl : ws.length = f.length := by have := h.row.1; omega
  have hs2 : w1.heap.size + 1 ≤ w2.heap.size := by have := hg.size; simpa using this
  have hvo : ∀ b, v.ownBlock = some b → b < w.heap.size := fun b hb => (own_lt h.row hb).2.1
  have K1 : ∀ b, b < w1.heap.size → v.ownBlock ≠ some b → w2.heap[b]? = w1.heap[b]? := fun b hb hne => by
    rw [hg.block b (by simp; omega) (fun e => hne e.symm), Below.heap_alloc w1 o b hb]
  have K : ∀ b, b < w.heap.size → v.ownBlock ≠ some b → w2.heap[b]? = w.heap[b]? := fun b hb hne => (K1 b (by omega) hne).trans (hB.block b hb)
  have hb0 : Below 0 w w2 := ((hB.mono (Nat.zero_le _)).alloc (Nat.zero_le _) o).grown hg (Nat.zero_le _) (fun k _ => Nat.zero_le _)
  have hne' : ∀ b, v.ownBlock ≠ some b → b ≠ w1.heap.size + 1 → v'.ownBlock ≠ some b := fun b h1 h2 e => by
    rcases hat with hat | hat
    · exact h1 (hat ▸ e)
    · rw [hat] at e; simp at e; omega
  refine ⟨⟨by simpa using ho, ?_, fun b hb => ?_⟩, ⟨hb0, fun b hb hne => K b hb hne⟩, fun b hb => ?_⟩
  · refine ints_snoc hwl (fun i hi => ?_) ?_
    · have hlt' := (h.each i hi)
      refine hlt'.keep (fun b hb hl => K b hl hb.2) (fun b hb hl => ⟨.inl hb.1, hne' b hb.2 (by omega)⟩)
    · have hne : v.ownBlock ≠ some w.heap.size := fun e => by have := hvo _ e; omega
      have hr2 : RowAt w2 w.heap.size 3 (p.map (Value.int .i64)) := by unfold RowAt at hr ⊢; rw [K1 _ hlt hne]; exact hr
      have := intsRow (Q := fun b => newQ Q w w2 b ∧ v'.ownBlock ≠ some b) (sp := []) (by rw [List.append_nil]; exact hr2) (Nat.le_refl _) (by omega) ⟨.inr ⟨Nat.le_refl _, by omega⟩, hne' _ hne (by omega)⟩
      exact this
  · rcases hat with hat | hat
    · exact .inl (h.own b (hat ▸ hb))
    · have := (own_lt ho hb).2.1
      rw [hat] at hb
      simp at hb
      exact .inr ⟨by omega, this⟩
  · rcases hat with hat | hat
    · exact .inl (hat ▸ hb)
    · rw [hat] at hb
      simp at hb
      exact .inr (by omega)
set_option maxRecDepth 100000 in
set_option maxHeartbeats 2000000 in
theorem lbehind_add {Q : Nat → Prop} (v : Value) (f : Flows) (ws : List Value) (r : List Nat) (gr og cr : Nat) (w : World) (h : OwnLs w Q v f ws) (hr : ∀ k, k < r.length → w.cell? ⟨gr, og + k, none⟩ = some (.int .u8 (r.getD k 0 : Nat))) (hm : MayR f r) (hcr : r.length ≤ cr) (hcm : cr ≤ 9223372036854775807) (h0 : r.getD 0 0 ≠ 0) (hf : f.length ≤ 6) :
    Calls Tryz.prog 31 #[v, .slice (some ⟨gr, og, none⟩) r.length cr] w fun e w' => ∃ v' ws', e = .returned v' ∧ OwnLs w' (newQ Q w w') v' (recStep f r) ws' ∧ ButIn (fun b => v.ownBlock = some b) w w' ∧ (∀ b, v'.ownBlock = some b → v.ownBlock = some b ∨ w.heap.size ≤ b) := by
  have h2 := hm.1.1
  have h7 := hm.1.2.2.1
  have h1 := hm.1.2.2.2
  have c0 := hr 0 (by omega)
  rw [Nat.add_zero] at c0
  have q0 : (((r.getD 0 0 : Nat) : Int) == 0) = false := beq_eq_false_iff_ne.2 (by omega)
  obtain ⟨p, hp⟩ : ∃ p : List Int, p = (r.drop 1).map fun (x : Nat) => (x : Int) := ⟨_, rfl⟩
  have hpl : p.length = r.length - 1 := by rw [hp]; simp
  have hst : recStep f r = f ++ [p] := by unfold recStep; rw [if_neg h0, hp]
  have HC : Hid (∀ k, k < p.length → ∀ u, Below w.heap.size w u → u.cell? ⟨gr, og + 1 + k, none⟩ = some (.int .u8 (p.getD k 0))) := fun k hk u hu => by
    have e : p.getD k 0 = ((r.getD (k + 1) 0 : Nat) : Int) := by
      rw [hp]
      simp [List.getD, List.getElem?_eq_getElem (show k + 1 < r.length by omega), show 1 + k = k + 1 by omega]
    rw [e, show og + 1 + k = og + (k + 1) by omega]
    exact cell_later hu (hr (k + 1) (by omega))
  have HB : Hid (∀ k, k < p.length → 0 ≤ p.getD k 0 ∧ p.getD k 0 ≤ 255) := fun k hk => by
    have e : p.getD k 0 = ((r.getD (k + 1) 0 : Nat) : Int) := by
      rw [hp]
      simp [List.getD, List.getElem?_eq_getElem (show k + 1 < r.length by omega), show 1 + k = k + 1 by omega]
    have := h1 (r.getD (k + 1) 0) (by rw [List.getD, List.getElem?_eq_getElem (by omega)]; exact List.getElem_mem _)
    omega
  have HTk : Hid (∀ k, k < p.length → p.take (k + 1) = p.take k ++ [p.getD k 0]) := fun k hk => take_snoc p k hk 0
  obtain ⟨a, c, rfl⟩ := owns_shape h.row
  have HF : Hid (OwnLs w Q (.slice a f.length c) f ws) := h
  obtain ⟨i0, hi, hz0, hz1, hz2⟩ := info_parts infoInt
  obtain ⟨j0, hj, hy0, hy1, hy2⟩ := info_parts infoInts
  have q2 : IntKind.i64.wrap ((r.length : Int) - 1) = (p.length : Int) := by rw [IntKind.wrap_i64]; omega
  have q3 : r.length - 1 = p.length := by omega
  have q4 : ¬ cr = 1 := by omega
  have p6 : p.length ≤ 6 := by omega
  rw [hst]
  clear hr hm h0 h1 hst hp h
  generalize r.getD 0 0 = r0 at *
  obtain ⟨n, hn⟩ : ∃ n, n = r.length := ⟨_, rfl⟩
  rw [← hn] at q2 q3 hcr h2 h7 hpl ⊢
  clear hn hpl
  go_enter Tryz.func31, Tryz.ntmps31
  go_wp2_with (at_make; go_must (refine wpList_make_full _ rfl _ _ 22 rfl w.heap.size 3 i0 (.int .i64 0) 1 Tryz.underlying22 hi hz0 hz1 .i64 .i64 _ _ p.length rfl rfl rfl rfl ?b2 ?b3 ?b4 ?_))
  case b2 => rw [hz2]; omega
  case b3 => unfold maxLen; omega
  case b4 => simp
  intro w2 hown hgrow
  have hown' : w2.ownsRow w.heap.size 3 1 (.slice (some ⟨w.heap.size, 0, none⟩) p.length p.length) p.length (madeCells #[.int .i64 0] p.length).toList := by simpa using hown
  rw [madeI] at hown'
  have R2 : Hid (RowAt w2 w.heap.size 3 ((p.take 0 ++ List.replicate (p.length - 0) 0).map (Value.int .i64))) := by
    show RowAt _ _ _ _
    simpa using RowAt.of_owns hown'
  have B2 : Hid (Below w.heap.size w w2) := (Below.refl _ _).grown hgrow (Nat.le_refl _) (by intro k hk; cases hk)
  clear hown hgrow hown'
  go_wp2
  go_loopw [7, 8, 29] (fun _ _ i wr => ∃ k : Nat, k ≤ p.length ∧ i = .int .i64 k ∧ Hid (RowAt wr w.heap.size 3 ((p.take k ++ List.replicate (p.length - k) 0).map (Value.int .i64))) ∧ Hid (Below w.heap.size w wr)) (fun _ _ i _ => p.length - (intOf i).toNat)
  case atStart => exact ⟨0, by omega, rfl, R2, B2⟩
  case round =>
    obtain ⟨k, hk, rfl, hro, hbl⟩ := hrel
    by_cases hlt : k < p.length
    · have c1 := HC.out k hlt _ hbl.out
      obtain ⟨b1, b2⟩ := HB.out k hlt
      have f0 := hro.out.frozen k
      have hkl : (p.take k).length = k := by rw [List.length_take]; omega
      have z0 := hro.out.lt
      have c2 : ∃ y0, wr.cell? ⟨w.heap.size, k, none⟩ = some y0 := ⟨_, hro.out.cell (List.getElem?_eq_getElem (show k < ((p.take k ++ List.replicate (p.length - k) 0).map (Value.int .i64)).length by rw [List.length_map, List.length_append, hkl, List.length_replicate]; omega))⟩
      obtain ⟨y0, c2⟩ := c2
      have hw1 : IntKind.i64.wrap (p.getD k 0) = p.getD k 0 := by rw [IntKind.wrap_i64]; omega
      have HN : Hid (RowAt (wr.setCell ⟨w.heap.size, k, none⟩ (.int .i64 (p.getD k 0))) w.heap.size 3 ((p.take (k + 1) ++ List.replicate (p.length - (k + 1)) 0).map (Value.int .i64))) := row_set hro.out hkl hlt (HTk.out k hlt)
      have HBn : Hid (Below w.heap.size w (wr.setCell ⟨w.heap.size, k, none⟩ (.int .i64 (p.getD k 0)))) := hbl.out.setCell (Nat.le_refl _) _
      clear hkl
      generalize p.getD k 0 = y at *
      go_wp2
      go_roundw
      case rel => exact ⟨k + 1, by omega, by go_num, HN, HBn⟩
      case measure => simp [intOf]; omega
    · have HR : Hid (RowAt wr w.heap.size 3 (p.map (Value.int .i64))) := by
        have := hro.out
        rw [show k = p.length by omega, List.take_length, Nat.sub_self, List.replicate_zero, List.append_nil] at this
        exact this
      have hsz : w.heap.size < wr.heap.size := hro.out.lt
      have O2 : Hid ((wr.alloc (.cells #[.slice (some ⟨w.heap.size, 0, none⟩) p.length p.length] 22)).ownsRow 0 22 1 (.slice a f.length c) f.length ws) :=
        (own_keep (fun b hb => hbl.out.block b (own_lt HF.out.row hb).2.1) HF.out.row).alloc _
      have HNews : Hid (∀ j u, [Value.slice (some ⟨w.heap.size, 0, none⟩) p.length p.length][j]? = some u → (wr.alloc (.cells #[.slice (some ⟨w.heap.size, 0, none⟩) p.length p.length] 22)).cell? ((⟨wr.heap.size, 0, none⟩ : Addr).add j) = some u) := new1 _ _ _ _ rfl
      go_wp2_with (at_builtin; go_must (refine wpList_append_own_at _ rfl (.tmp 40) (.tmp 42) 23 rfl 0 22 j0 (.slice none 0 0) 1 24 Tryz.underlying23 hj hy0 hy1 hy2 rfl (by decide) (.slice a f.length c) f.length ws rfl O2.out ⟨wr.heap.size, 0, none⟩ 1 1 [.slice (some ⟨w.heap.size, 0, none⟩) p.length p.length] rfl rfl HNews.out (by intro u hu; simp at hu; subst hu; rfl) (by unfold maxLen; omega) (by omega) (Nat.zero_le _) ?_))
      intro v' wg hown' hgrow _ hat
      have HE : Hid _ := add_path HF.out hbl.out HR.out p6 hown' hgrow hat
      obtain ⟨av, cv, rfl⟩ := owns_shape hown'
      clear hown' hgrow hat
      go_wp2
      go_ret
      exact ⟨_, _, rfl, HE.out⟩
/-- the flows as a record leaves them -/
theorem lbehind_any {Q : Nat → Prop} (v : Value) (f : Flows) (ws : List Value) (r : List Nat) (gr og cr : Nat) (w : World) (h : OwnLs w Q v f ws) (hr : ∀ k, k < r.length → w.cell? ⟨gr, og + k, none⟩ = some (.int .u8 (r.getD k 0 : Nat))) (hm : MayR f r) (hcr : r.length ≤ cr) (hcm : cr ≤ 9223372036854775807) (hf : f.length ≤ 6) :
    Calls Tryz.prog 31 #[v, .slice (some ⟨gr, og, none⟩) r.length cr] w fun e w' => ∃ v' ws', e = .returned v' ∧ OwnLs w' (newQ Q w w') v' (recStep f r) ws' ∧ ButIn (fun b => v.ownBlock = some b) w w' ∧ (∀ b, v'.ownBlock = some b → v.ownBlock = some b ∨ w.heap.size ≤ b) := by
  by_cases h0 : r.getD 0 0 = 0
  · exact lbehind_drop v f ws r gr og cr w h hr hm hcr h0 hf
  · exact lbehind_add v f ws r gr og cr w h hr hm hcr hcm h0 hf
end Ev
end Go.Proofs.YtpnmmmlckdkcdakGreatDoor
