/- Package log's Add and Drop do what is asked of them. -/
import Derived.Test.YtpnmmmlckdkcdakGreatDoorLgLN
import Derived.Test.YtpnmmmlckdkcdakGreatDoorLgLB
import Derived.Test.YtpnmmmlckdkcdakGreatDoorLgLW
namespace Go.Proofs.YtpnmmmlckdkcdakGreatDoor
namespace Ev
open Go.RowKit Fr Ns Fl
set_option linter.unusedSimpArgs false
set_option linter.unusedVariables false

theorem moved_later {p : Value} {F : Nat → Prop} {s : LogS} {w w1 w2 : World} (hb : Below w.heap.size w w1) (h : MovedL logX p F s w1 w2) : MovedL logX p F s w w2 := by
  obtain ⟨F', h1, h2, h3⟩ := h
  have hz := hb.size
  refine ⟨F', h1, fun b hb' => ?_, (hb.mono (Nat.zero_le _)).trans h3.1, fun b hb' hF => (h3.2 b (by omega) hF).trans (hb.block b hb')⟩
  rcases h2 b hb' with h | h
  · exact .inl h
  · exact .inr (by omega)
theorem path_right {L : Nat} {p : List Int} (h : pathE L p = 0) : 1 ≤ p.length ∧ p.length ≤ L ∧ ∀ x ∈ p, 0 ≤ x ∧ x < L := by
  have hl := pathE_len h
  unfold pathE at h
  split at h
  · omega
  · have := pathFrom_nodup L p [] h (by simp) (by simp)
    exact ⟨by omega, hl, by simpa using this.2⟩
theorem rec_cells {w : World} {base gr n c : Nat} {r : List Nat} (h : w.ownsRow base 5 1 (.slice (some ⟨gr, 0, none⟩) n c) n (u8s r)) : ∀ k, k < r.length → w.cell? ⟨gr, 0 + k, none⟩ = some (.int .u8 (r.getD k 0 : Nat)) := by
  intro k hk
  rcases own_cellL h with ⟨_, _, e⟩ | ⟨g, e, _, _, _, hc⟩
  · cases e
  · simp at e
    subst e
    rw [Nat.zero_add]
    exact hc k _ (u8s_at hk)
/-- how an Add or a Drop ends -/
def LgOut (g : Nat) (F : Nat → Prop) (k : Int) (S : Nat → LogS) (w : World) (e : Ending) (w' : World) : Prop := ∃ n, e = .returned (errV k) ∧ 2 ≤ n ∧ n ≤ 1000 ∧ MovedL logX (.pointer (some ⟨g, 0, none⟩)) F (S n) w w'
set_option maxRecDepth 100000 in
set_option maxHeartbeats 2000000 in
theorem ladd_said : LAddSaid logX := by
  rintro Q p F s path v w ⟨g, cv, bv, fv, B, ws, rfl, h⟩ hf hv hQ
  show Calls _ _ _ _ (LgOut g F (addLE s path) (addLS s path) w)
  obtain ⟨⟨ac, cc, rfl, _⟩, -, ⟨af, cf, rfl⟩⟩ := h.mem.shape
  obtain ⟨c0, -, -, c3, -, c5, f0, gl⟩ := h.mem.six
  obtain ⟨va, vc, hvv, hvm, _⟩ := id hv
  have hcp := hf.1.caps
  obtain ⟨h1, h6⟩ := links_len hcp
  have N : Hid (∀ k u, addF s path = k → k ≠ 0 → Below w.heap.size w u → LgOut g F (addLE s path) (addLS s path) w (.returned (.iface 65 (.int .i64 k))) u) := fun k u hk h0 hu => by
    have e1 : addLE s path = k := by unfold addLE lastE; rw [hk, if_neg h0]
    have e2 : addLS s path 2 = s := by unfold addLS; rw [hk, if_neg h0]
    exact ⟨2, by rw [e1, errV_ne h0], by omega, by omega, by rw [e2]; exact moved_none h hu⟩
  by_cases hs : s.stopped = true
  · have N1 : Hid _ := N.out 6 w (by unfold addF; rw [if_pos hs]) (by decide) (Below.refl _ _)
    rw [hs] at c5
    clear h hf hv hcp hs
    subst hvv
    go_enter Tryz.func10, Tryz.ntmps10
    go_wp2
    go_ret
    exact N1.out
  · have hs' : s.stopped = false := by simpa using hs
    rw [hs'] at c5
    by_cases h66 : s.flows.length = 6
    · have N1 : Hid _ := N.out 4 w (by unfold addF; rw [if_neg hs, if_pos h66]) (by decide) (Below.refl _ _)
      have q : ((s.flows.length : Int) == 6) = true := by simp [h66]
      clear h hf hv hcp hs hs' h66
      subst hvv
      generalize s.flows.length = nf at *
      go_enter Tryz.func10, Tryz.ntmps10
      go_wp2
      go_ret
      exact N1.out
    · have q : ((s.flows.length : Int) == 6) = false := beq_eq_false_iff_ne.2 (by omega)
      have HCk : Hid (Calls Tryz.prog 18 #[.agg #[.slice ac s.caps.length cc, .slice (some ⟨w.heap.size, 0, none⟩) 1 1]] (w.alloc (.cells #[v] 22)) fun e w' => e = .returned (errV (pathE s.caps.length path)) ∧ Below (w.alloc (.cells #[v] 22)).heap.size (w.alloc (.cells #[v] 22)) w') := by
        rw [← netE_one hcp]
        exact check_said (fun _ => True) s.caps [path] _ _ ⟨_, _, rfl, (h.mem.caps.later ((Below.refl _ _).alloc (Nat.le_refl _) _)).keep (fun _ _ _ => rfl) (fun _ _ _ => trivial), one_list hv⟩
      have hF : addF s path = pathE s.caps.length path := by unfold addF; rw [if_neg hs, if_neg h66]
      by_cases hp : pathE s.caps.length path = 0
      · obtain ⟨p1, p2, p3⟩ := path_right hp
        have hrec : RecR (recAdd path) := recR_add h6 hp p1 (by omega) p3
        have hmay : MayR s.flows (recAdd path) := ⟨hrec, fun e => by rw [show (recAdd path).getD 0 0 = path.length from rfl] at e; omega, fun _ => by have := hf.1.flows_right.1; omega⟩
        have HRec : Hid (∀ u, Below w.heap.size w u → Calls Tryz.prog 28 #[v] u fun e w' => ∃ y, e = .returned y ∧ w'.ownsRow u.heap.size 5 1 y (path.length + 1) (u8s (recAdd path)) ∧ Below u.heap.size u w') := fun u hu => laddRecord_any path v u (hv.later hu) (by omega) (fun x hx => by have := p3 x hx; omega)
        have HWr : Hid (∀ u gr cr, Below w.heap.size w u → w.heap.size ≤ gr → u.ownsRow w.heap.size 5 1 (.slice (some ⟨gr, 0, none⟩) (path.length + 1) cr) (path.length + 1) (u8s (recAdd path)) →
            Calls Tryz.prog 27 #[.pointer (some ⟨g, 0, none⟩), .slice (some ⟨gr, 0, none⟩) (path.length + 1) cr] u fun e w' => ∃ n, e = .returned (errV (addLE s path)) ∧ 2 ≤ n ∧ n ≤ 1000 ∧ MovedL logX (.pointer (some ⟨g, 0, none⟩)) F (addLS s path n) w w') := fun u gr cr hu hgr ho => by
          have hlen : (recAdd path).length = path.length + 1 := by simp [recAdd]
          have hb : path.length + 1 ≤ cr ∧ cr ≤ maxLen := by
            rcases own_cellL ho with ⟨e, _⟩ | ⟨_, _, e1, e2, _⟩
            · omega
            · exact ⟨e1, e2⟩
          have := lwrite_any (h.keep (fun b hb => hu.block b (h.mem.lt b hb))) hf hs' (recAdd path) gr 0 cr (rec_cells ho) (by omega) (by have := hb.2; unfold maxLen at this; omega) hmay (fun e => by have := h.mem.lt _ e; omega)
          rw [hlen] at this
          refine this.mono ?_
          rintro e w' ⟨rfl, hM⟩
          refine ⟨path.length + 1, ?_, by omega, by omega, ?_⟩
          · unfold addLE lastE; rw [hF, hp, if_pos rfl]
          · have e2 : addLS s path (path.length + 1) = putS s (path.length + 1) (recStep s.flows (recAdd path)) := by unfold addLS; rw [hF, hp, if_pos rfl, recStep_add p1 (fun x hx => (p3 x hx).1)]
            rw [e2]
            exact moved_later hu hM
        rw [hp, errV_0] at HCk
        have B0 : Hid (Below w.heap.size w (w.alloc (.cells #[v] 22))) := (Below.refl _ _).alloc (Nat.le_refl _) _
        clear h hf hv hcp hs hs' h66 hF hp p1 p2 p3 hrec hmay
        subst hvv
        generalize s.flows.length = nf at *
        generalize s.caps.length = nc at *
        go_enter Tryz.func10, Tryz.ntmps10
        go_wp2_with fail
        refine HCk.out.mono ?_
        rintro e w1 ⟨rfl, hw1⟩
        have B1 : Hid (Below w.heap.size w w1) := Bel.call B0.out (Nat.le_refl _) hw1
        clear hw1
        go_wp2_with fail
        refine (HRec.out _ B1.out).mono ?_
        rintro e w2 ⟨y, rfl, hy, hw2⟩
        have B2 : Hid (Below w.heap.size w w2) := Bel.call B1.out (Nat.le_refl _) hw2
        have hz1 := B1.out.size
        obtain ⟨ya, yc, rfl⟩ := owns_shape hy
        rcases own_cellL hy with ⟨e, _⟩ | ⟨gr, rfl, _⟩
        · omega
        have hgr := (own_lt hy (g := gr) rfl).1
        have HW : Hid (Calls Tryz.prog 27 #[.pointer (some ⟨g, 0, none⟩), .slice (some ⟨gr, 0, none⟩) (path.length + 1) yc] w2 fun e w' => ∃ n, e = .returned (errV (addLE s path)) ∧ 2 ≤ n ∧ n ≤ 1000 ∧ MovedL logX (.pointer (some ⟨g, 0, none⟩)) F (addLS s path n) w w') := HWr.out w2 gr yc B2.out (by omega) (own_base (fun b hb => by simp [Value.ownBlock] at hb; omega) hy)
        clear hw2 hy hz1 hgr
        go_wp2_with fail
        refine HW.out.mono ?_
        rintro e w3 ⟨n, rfl, hn⟩
        have HN : Hid _ := hn
        clear hn
        go_wp2
        go_ret
        exact ⟨n, rfl, HN.out⟩
      · have N1 : Hid (∀ u, Below w.heap.size w u → LgOut g F (addLE s path) (addLS s path) w (.returned (.iface 65 (.int .i64 (pathE s.caps.length path)))) u) := fun u hu => N.out _ u hF hp hu
        have B0 : Hid (Below w.heap.size w (w.alloc (.cells #[v] 22))) := (Below.refl _ _).alloc (Nat.le_refl _) _
        rw [errV_ne hp] at HCk
        clear h hf hv hcp hs hs' h66 hF hp N
        subst hvv
        generalize pathE s.caps.length path = ek at *
        generalize s.flows.length = nf at *
        generalize s.caps.length = nc at *
        go_enter Tryz.func10, Tryz.ntmps10
        go_wp2_with fail
        refine HCk.out.mono ?_
        rintro e w1 ⟨rfl, hw1⟩
        have X1 : Hid _ := N1.out w1 (Bel.call B0.out (Nat.le_refl _) hw1)
        clear hw1
        go_wp2
        go_ret
        exact X1.out

set_option maxRecDepth 100000 in
set_option maxHeartbeats 2000000 in
theorem ldrop_said : LDropSaid logX := by
  rintro p F s i w ⟨g, cv, bv, fv, B, ws, rfl, h⟩ hf
  show Calls _ _ _ _ (LgOut g F (dropLE s i) (dropLS s i) w)
  obtain ⟨-, -, ⟨af, cf, rfl⟩⟩ := h.mem.shape
  obtain ⟨-, -, -, c3, -, c5, f0, gl⟩ := h.mem.six
  have N : Hid (∀ k, dropF s i = k → k ≠ 0 → LgOut g F (dropLE s i) (dropLS s i) w (.returned (.iface 65 (.int .i64 k))) w) := fun k hk h0 => by
    have e1 : dropLE s i = k := by unfold dropLE lastE; rw [hk, if_neg h0]
    have e2 : dropLS s i 2 = s := by unfold dropLS; rw [hk, if_neg h0]
    exact ⟨2, by rw [e1, errV_ne h0], by omega, by omega, by rw [e2]; exact moved_none h (Below.refl _ _)⟩
  by_cases hs : s.stopped = true
  · have N1 : Hid _ := N.out 6 (by unfold dropF; rw [if_pos hs]) (by decide)
    rw [hs] at c5
    clear h hf hs
    go_enter Tryz.func9, Tryz.ntmps9
    go_wp2
    go_ret
    exact N1.out
  · have hs' : s.stopped = false := by simpa using hs
    rw [hs'] at c5
    by_cases hi : i < 0 ∨ (s.flows.length : Int) ≤ i
    · have N1 : Hid _ := N.out 1 (by unfold dropF; rw [if_neg hs, if_pos hi]) (by decide)
      by_cases hn : i < 0
      · clear h hf hs hs' hi
        generalize s.flows.length = nf at *
        go_enter Tryz.func9, Tryz.ntmps9
        go_wp2
        go_ret
        exact N1.out
      · have hm : (s.flows.length : Int) ≤ i := by omega
        clear h hf hs hs' hi
        generalize s.flows.length = nf at *
        go_enter Tryz.func9, Tryz.ntmps9
        go_wp2
        go_ret
        exact N1.out
    · have i0 : 0 ≤ i := by omega
      have i1 : i < s.flows.length := by omega
      have f6 := hf.1.flows_right.1
      have hF : dropF s i = 0 := by unfold dropF; rw [if_neg hs, if_neg hi]
      have q1 : IntKind.u8.wrap i = i := by rw [IntKind.wrap_u8]; omega
      have ho : (w.alloc (.cells #[.int .u8 0, .int .u8 i] 5)).ownsRow w.heap.size 5 1 (.slice (some ⟨w.heap.size, 0, none⟩) 2 2) 2 (u8s (recDrop i)) := by
        refine RowAt.owns (row_made w _ _ _ _ rfl ?_) (Nat.le_refl _) rfl (by decide)
        have : ((i.toNat : Nat) : Int) = i := Int.toNat_of_nonneg i0
        simp [u8s, recDrop, this]
      have hu : Below w.heap.size w (w.alloc (.cells #[.int .u8 0, .int .u8 i] 5)) := (Below.refl _ _).alloc (Nat.le_refl _) _
      have HW : Hid (Calls Tryz.prog 27 #[.pointer (some ⟨g, 0, none⟩), .slice (some ⟨w.heap.size, 0, none⟩) 2 2] (w.alloc (.cells #[.int .u8 0, .int .u8 i] 5)) fun e w' => ∃ n, e = .returned (errV (dropLE s i)) ∧ 2 ≤ n ∧ n ≤ 1000 ∧ MovedL logX (.pointer (some ⟨g, 0, none⟩)) F (dropLS s i n) w w') := by
        have hmay : MayR s.flows (recDrop i) := ⟨recR_drop (by omega), fun _ => by show i.toNat < _; omega, fun e => absurd rfl e⟩
        have := lwrite_any (h.keep (fun b hb => hu.block b (h.mem.lt b hb))) hf hs' (recDrop i) w.heap.size 0 2 (rec_cells ho) (Nat.le_refl _) (by omega) hmay (fun e => by have := h.mem.lt _ e; omega)
        refine this.mono ?_
        rintro e w' ⟨rfl, hM⟩
        refine ⟨2, ?_, by omega, by omega, ?_⟩
        · unfold dropLE lastE; rw [hF, if_pos rfl]
        · have e2 : dropLS s i 2 = putS s 2 (recStep s.flows (recDrop i)) := by unfold dropLS; rw [hF, if_pos rfl, recStep_drop i0]
          rw [e2]
          exact moved_later hu hM
      clear h hf hs hs' hi hF ho hu N f6
      generalize s.flows.length = nf at *
      go_enter Tryz.func9, Tryz.ntmps9
      go_wp2_with fail
      refine HW.out.mono ?_
      rintro e w3 ⟨n, rfl, hn⟩
      have HN : Hid _ := hn
      clear hn
      go_wp2
      go_ret
      exact ⟨n, rfl, HN.out⟩
end Ev
end Go.Proofs.YtpnmmmlckdkcdakGreatDoor
