/- Pieces of one walk, one text behind the other. -/
import Derived.Test.YtpnmmmlckdkcdakGreatDoorRnShelf
import Derived.Test.YtpnmmmlckdkcdakGreatDoorPlains
import Derived.Test.YtpnmmmlckdkcdakGreatDoorRDig
import Derived.Lib.AppendStr
import Derived.Maps.AppendAt
/- Package run's fraction, written and fractions: numbers and fractions as a text, several with a blank between. -/
namespace Go.Proofs.YtpnmmmlckdkcdakGreatDoor
namespace Ev
open Go.RowKit Fr Ns Ld Fl
set_option linter.unusedSimpArgs false
set_option linter.unusedVariables false

/-- the library's table of tens lies where it was laid -/
def TabAt (w : World) : Prop := ∃ t fz, w.heap[2]? = some (.cells (Lib.pow10Tab.map fun z => Value.int .u64 z).toArray t fz)
theorem TabAt.later {w w' : World} (h : TabAt w) (hb : Below w.heap.size w w') : TabAt w' := by
  obtain ⟨t, fz, h⟩ := h
  exact ⟨t, fz, by rw [hb.block _ (Array.getElem?_eq_some_iff.1 h).1]; exact h⟩
theorem tab_mk {P : Program} {w : World} {name : String} {k : IntKind} {zs : List Int} {g : Nat} {t : TypeId} {fz : Nat × Nat} (hn : P.globalNamed name = some g) (h : w.heap[g]? = some (.cells (zs.map fun z => Value.int k z).toArray t fz)) : Lib.TabIs P w name k zs := by
  unfold Lib.TabIs World.var?
  rw [hn]
  simp [h]
theorem below_more (w : World) (k : Nat) (os : Array Obj) : Below w.heap.size w (Sort.grow (w.drewN k) os) :=
  ⟨rfl, rfl, rfl, by simp [Sort.grow], fun b hb => by simp [Sort.grow, Array.getElem?_append, hb]⟩
theorem ritoa {n : Int} {w : World} (ht : TabAt w) (h0 : 0 ≤ n) (h1 : n ≤ 9223372036854775807) : Calls Tryz.prog 119 #[.int .i64 n] w fun e w' => e = .returned (.string ⟨(digT n).toArray⟩) ∧ Below w.heap.size w w' := by
  obtain ⟨t, fz, h⟩ := ht
  refine Calls.mono (Any.strconv_Itoa (P := Tryz.prog) (ρ := Tryz.laysM171_ren) Tryz.laysM171 n (by omega) h1 w (tab_mk (by kernel_rfl) h)) ?_
  rintro e w' ⟨rfl, k, os, rfl⟩
  rw [itoa_dig h0 h1]
  exact ⟨rfl, below_more w k os⟩
theorem joinT_le (l : List Txt) (m : Nat) (h : ∀ t ∈ l, t.length ≤ m) : (joinT l).length ≤ l.length * (m + 1) := by
  induction l with
  | nil => simp [joinT]
  | cons a r ih =>
    have ha := h a (by simp)
    have hi := ih (fun t ht => h t (by simp [ht]))
    cases r with
    | nil => simp [joinT]; omega
    | cons b r =>
      simp only [joinT, List.length_append, List.length_cons] at hi ⊢
      rw [Nat.add_mul _ 1, Nat.one_mul]
      omega
theorem rjoin (L : List Txt) (g : Nat) (w : World) (hr : RowAt w g 9 (L.map txtV)) (hN : L.length ≤ 1000000) (hm : ∀ t ∈ L, t.length ≤ 41) :
    Calls Tryz.prog 149 #[.slice (some ⟨g, 0, none⟩) L.length L.length, .string ⟨#[32]⟩] w fun e w' => e = .returned (.string ⟨(joinT L).toArray⟩) ∧ Below w.heap.size w w' := by
  have e1 : (L.map fun t => (⟨t.toArray⟩ : ByteArray)).map (·.data.toList) = L := by
    rw [List.map_map]; exact List.map_id'' (fun _ => rfl) L
  have e2 : Lib.join ((L.map fun t => (⟨t.toArray⟩ : ByteArray)).map (·.data.toList)) (⟨#[32]⟩ : ByteArray).data.toList = joinT L := by rw [e1]; exact join_words L
  have := Tryz.strings_Join g 0 L.length (L.map fun t => ⟨t.toArray⟩) ⟨#[32]⟩ w (fun j x hj => ?_) hr.lt (by simp; omega) (by simp) (by
    rw [e2]
    have := joinT_le L 41 hm
    omega)
  · rw [e2] at this
    simpa using this
  · rw [List.getElem?_map, Option.map_eq_some_iff] at hj
    obtain ⟨t, ht, rfl⟩ := hj
    rw [Nat.zero_add]
    exact hr.cell (by rw [List.getElem?_map, ht]; rfl)
theorem madeS (n : Nat) : (madeCells #[Value.string ByteArray.empty] n).toList = (List.replicate n ([] : Txt)).map txtV := by
  apply List.ext_getElem
  · simp [madeCells]
  · intro i h1 h2
    simp [madeCells, Nat.mod_one]
    rfl
theorem wrote_set {a : List Txt} {n k : Nat} {x : Txt} (ha : a.length = k) (hk : k < n) : (a ++ List.replicate (n - k) []).set k x = (a ++ [x]) ++ List.replicate (n - (k + 1)) [] := by
  obtain ⟨m, hm⟩ : ∃ m, n - k = m + 1 := ⟨n - k - 1, by omega⟩
  have e : n - (k + 1) = m := by omega
  rw [hm, e, List.replicate_succ, ← ha]
  simp
theorem wrote_row {w : World} {g n k : Nat} {a b : List Txt} {x : Txt} (h : RowAt w g 9 ((a ++ List.replicate (n - k) []).map txtV)) (ha : a.length = k) (hk : k < n) (hb : b = a ++ [x]) : RowAt (w.setCell ⟨g, k, none⟩ (.string ⟨x.toArray⟩)) g 9 ((b ++ List.replicate (n - (k + 1)) []).map txtV) := by
  have := h.set k (txtV x)
  rw [← List.map_set, wrote_set ha hk, ← hb] at this
  exact this

set_option maxRecDepth 100000 in
set_option maxHeartbeats 2000000 in
theorem rfraction (a : Int × Int) (w : World) (ht : TabAt w) (h0 : 0 ≤ a.1) (h1 : a.1 ≤ 9223372036854775807) (h2 : 0 ≤ a.2) (h3 : a.2 ≤ 9223372036854775807) :
    Calls Tryz.prog 116 #[.agg #[.int .i64 a.1, .int .i64 a.2]] w fun e w' => e = .returned (.string ⟨(toldT a).toArray⟩) ∧ Below w.heap.size w w' := by
  have hB : Below w.heap.size w (w.alloc (.cells #[.int .i64 a.1, .int .i64 a.2] 58)) := (Below.refl _ _).alloc (Nat.le_refl _) _
  have HT := ht.later hB
  have H1 : Hid (∀ x : Lat (w.alloc (.cells #[.int .i64 a.1, .int .i64 a.2] 58)), Calls Tryz.prog 119 #[.int .i64 a.1] x.u fun e w' => e = .returned (.string ⟨(digT a.1).toArray⟩) ∧ Below x.u.heap.size x.u w') := fun x => ritoa (HT.later x.b) h0 h1
  have H2 : Hid (∀ x : Lat (w.alloc (.cells #[.int .i64 a.1, .int .i64 a.2] 58)), Calls Tryz.prog 119 #[.int .i64 a.2] x.u fun e w' => e = .returned (.string ⟨(digT a.2).toArray⟩) ∧ Below x.u.heap.size x.u w') := fun x => ritoa (HT.later x.b) h2 h3
  have HB : Hid (Below w.heap.size w (w.alloc (.cells #[.int .i64 a.1, .int .i64 a.2] 58))) := hB
  by_cases hb : a.2 = 1
  · rw [told_1 hb]
    rw [hb] at H1 HB ⊢
    generalize digT a.1 = D at *
    generalize a.1 = n at *
    clear hb H2 HT hB ht
    go_enter Tryz.func116, Tryz.ntmps116
    go_wp2_with fail
    refine (H1.out ⟨_, Below.refl _ _⟩).mono ?_
    rintro e w1 ⟨rfl, hb1⟩
    go_wp2
    go_ret
    exact ⟨rfl, Bel.call HB.out (by simp) hb1⟩
  · have HR : Hid ((⟨(toldT a).toArray⟩ : ByteArray) = ⟨(digT a.1).toArray⟩ ++ ⟨#[47]⟩ ++ ⟨(digT a.2).toArray⟩) := told_2 hb
    have hD1 := digT_len a.1
    have hD2 := digT_len a.2
    generalize toldT a = R at *
    generalize digT a.1 = D1 at *
    generalize digT a.2 = D2 at *
    generalize a.1 = n at *
    generalize a.2 = m at *
    have c0 : ∀ x : Lat (w.alloc (.cells #[.int .i64 n, .int .i64 m] 58)), x.u.cell? ⟨w.heap.size, 0, none⟩ = some (.int .i64 n) := fun x => x.cell (by simp)
    have c1 : ∀ x : Lat (w.alloc (.cells #[.int .i64 n, .int .i64 m] 58)), x.u.cell? ⟨w.heap.size, 1, none⟩ = some (.int .i64 m) := fun x => x.cell (by simp)
    clear HT hB ht
    go_enter Tryz.func116, Tryz.ntmps116
    go_wp2_with fail
    have hne : Nonempty (Lat (w.alloc (.cells #[.int .i64 n, .int .i64 m] 58))) := ⟨⟨_, Below.refl _ _⟩⟩
    refine wp_region_lat (by kernel_rfl) (by kernel_rfl) ?_
    repeat (go_big_quiet_step (first | (go_at_call 119; first | exact lat_of (H1.out _) | exact lat_of (H2.out _))))
    refine wpQuiet_nil ?_
    intro w9 hw'
    have hb9 : Below w.heap.size w w9 := by
      obtain ⟨x, rfl⟩ := hw'
      exact Bel.call HB.out (by simp) x.b
    have HB9 : Hid (Below w.heap.size w w9) := hb9
    clear hw' hb9 c0 c1 hne
    go_wp2
    go_ret
    exact ⟨ret_str (by rw [HR.out]), HB9.out⟩

set_option maxRecDepth 100000 in
set_option maxHeartbeats 2000000 in
theorem rwritten_int (Q : Nat → Prop) (l : List Int) (v : Value) (w : World) (ht : TabAt w) (hv : IntsAt Q w v l) (hl : l.length ≤ 1000000) (hn : ∀ x ∈ l, 0 ≤ x ∧ x ≤ 9223372036854775807) :
    Calls Tryz.prog 118 #[v, .func (.func 119) #[] #[]] w fun e w' => e = .returned (.string ⟨(joinT (l.map digT)).toArray⟩) ∧ Below w.heap.size w w' := by
  have HI : Hid (∀ k, k < l.length → ∀ u : World, Below w.heap.size w u → Calls Tryz.prog 119 #[.int .i64 (l.getD k 0)] u fun e w' => e = .returned (.string ⟨(digT (l.getD k 0)).toArray⟩) ∧ Below u.heap.size u w') := fun k hk u hu => by
    have := hn (l.getD k 0) (getD_mem l k hk 0)
    exact ritoa (ht.later hu) this.1 this.2
  have HC : Hid (∀ i, i < l.length → ∃ b off, v = .slice (some ⟨b, off, none⟩) l.length (match v with | .slice _ _ c => c | _ => 0) ∧ ∀ u, Below w.heap.size w u → u.cell? ⟨b, off + i, none⟩ = some (.int .i64 (l.getD i 0))) := fun i hi => by
    obtain ⟨a, cap, rfl, _, h⟩ := hv
    rcases h with h | ⟨b, off, rfl, h, _⟩
    · rw [h] at hi; simp at hi
    · exact ⟨b, off, rfl, fun u hu => cell_later hu (h i hi)⟩
  obtain ⟨a, cap, rfl, ⟨hcap, _⟩, _⟩ := hv
  have HS : Hid (∀ k, k < l.length → (l.map digT).take (k + 1) = (l.map digT).take k ++ [digT (l.getD k 0)]) := fun k hk => by
    rw [List.take_add_one, List.getElem?_map, List.getD, List.getElem?_eq_getElem hk]; rfl
  have HLn : Hid ((l.map digT).length = l.length) := by show _ = _; simp
  have HJ : Hid (∀ (g : Nat) (u : World), RowAt u g 9 ((l.map digT).map txtV) → Calls Tryz.prog 149 #[.slice (some ⟨g, 0, none⟩) l.length l.length, .string ⟨#[32]⟩] u fun e w' => e = .returned (.string ⟨(joinT (l.map digT)).toArray⟩) ∧ Below u.heap.size u w') := fun g u hr => by
    have := rjoin (l.map digT) g u hr (by simpa using hl) (fun t h => by obtain ⟨x, _, rfl⟩ := List.mem_map.1 h; exact Nat.le_trans (digT_len x) (by decide))
    simpa using this
  generalize l.map digT = L at *
  obtain ⟨i0, hi, hz0, hz1, hz2⟩ := info_parts infoStr
  obtain ⟨A, hA, hmk⟩ : ∃ A : Array Value, A.toList = (List.replicate l.length ([] : Txt)).map txtV ∧ ∀ u : World, (Instr.makeSlice 50 (.int .i64 l.length) (.int .i64 l.length)).run Tryz.prog u = .ok (.slice (some ⟨u.heap.size, 0, none⟩) l.length l.length) (u.alloc (.cells A 9)) := by
    refine ⟨madeCells #[.string ByteArray.empty] l.length, madeS _, fun u => ?_⟩
    have hr := run_make (P := Tryz.prog) u 50 9 i0 (.string ByteArray.empty) Tryz.underlying50 hi hz0 .i64 .i64 l.length l.length (by omega) (Int.le_refl _) (by rw [hz2]; omega) (by omega)
    simpa [hz1, Value.cells] using hr
  have S3 : Hid (RowAt (w.alloc (.cells A 9)) w.heap.size 9 ((L.take 0 ++ List.replicate (l.length - 0) []).map txtV)) := by
    rw [List.take_zero]
    exact row_made _ _ _ _ _ rfl hA
  have B3 : Hid (Below w.heap.size w (w.alloc (.cells A 9))) := (Below.refl _ _).alloc (Nat.le_refl _) _
  clear hA hn ht
  generalize joinT L = R at *
  go_enter Tryz.func118, Tryz.ntmps118
  go_wp2_with fail
  go_loopw [6, 7, 13] (fun _ _ i wr => ∃ k : Nat, k ≤ l.length ∧ i = .int .i64 k ∧ Hid (RowAt wr w.heap.size 9 ((L.take k ++ List.replicate (l.length - k) []).map txtV)) ∧ Hid (Below w.heap.size w wr)) (fun _ _ i _ => l.length - (intOf i).toNat)
  case atStart => exact ⟨0, by omega, rfl, S3, B3⟩
  case round =>
    clear S3 B3
    obtain ⟨k, hk, rfl, hro, hbel⟩ := hrel
    by_cases hlt : k < l.length
    · obtain ⟨b, off, e1, hc⟩ := HC.out k hlt
      simp only [Value.slice.injEq, true_and, and_true] at e1
      subst e1
      have c0 := hc wr hbel.out
      have HI1 := HI.out k hlt wr hbel.out
      have hs := HS.out k hlt
      have hLl : (L.take k).length = k := by rw [List.length_take, HLn.out]; omega
      have HNx : Hid (∀ u : World, Below wr.heap.size wr u → RowAt (u.setCell ⟨w.heap.size, k, none⟩ (.string ⟨(digT (l.getD k 0)).toArray⟩)) w.heap.size 9 ((L.take (k + 1) ++ List.replicate (l.length - (k + 1)) []).map txtV) ∧ Below w.heap.size w (u.setCell ⟨w.heap.size, k, none⟩ (.string ⟨(digT (l.getD k 0)).toArray⟩)) ∧ (∃ z, u.cell? ⟨w.heap.size, k, none⟩ = some z) ∧ u.frozen? ⟨w.heap.size, k, none⟩ = false ∧ w.heap.size < u.heap.size) := fun u hu => by
        have hr := hro.out.later hu hro.out.lt
        refine ⟨wrote_row hr hLl hlt hs, (Bel.call hbel.out (Nat.le_refl _) hu).setCell (Nat.le_refl _) _, ?_, hr.frozen k, hr.lt⟩
        have hlen : k < ((L.take k ++ List.replicate (l.length - k) []).map txtV).length := by have := HLn.out; simp; omega
        exact ⟨_, hr.cell (List.getElem?_eq_getElem hlen)⟩
      clear hs hLl hro hc HI HC HS
      generalize digT (l.getD k 0) = D at *
      generalize l.getD k 0 = x at *
      go_wp2_with fail
      refine HI1.mono ?_
      rintro e w2 ⟨rfl, hb2⟩
      obtain ⟨g1, g2, ⟨z, g3⟩, g4, g5⟩ := HNx.out w2 hb2
      have G1 : Hid _ := g1
      have G2 : Hid _ := g2
      clear g1 g2 hb2 HI1 HNx
      go_wp2
      go_roundw
      case rel => exact ⟨k + 1, by omega, by go_num, G1, G2⟩
      case measure => simp [intOf]; omega
    · obtain rfl : k = l.length := by omega
      have hro2 : RowAt wr w.heap.size 9 (L.map txtV) := by
        have := hro.out
        rw [Nat.sub_self, List.take_of_length_le (by rw [HLn.out]; exact Nat.le_refl _)] at this
        simpa using this
      have HJ1 := HJ.out _ wr hro2
      clear HI HC HS HJ hro2
      go_wp2_with fail
      refine HJ1.mono ?_
      rintro e w2 ⟨rfl, hb2⟩
      go_wp2
      go_ret
      exact ⟨rfl, Bel.call hbel.out (Nat.le_refl _) hb2⟩

set_option maxRecDepth 100000 in
set_option maxHeartbeats 2000000 in
theorem rwritten_frac (Q : Nat → Prop) (l : List (Int × Int)) (v : Value) (w : World) (ht : TabAt w) (hv : FracsAt Q w v l) (hl : l.length ≤ 1000000) (hn : ∀ x ∈ l, (0 ≤ x.1 ∧ x.1 ≤ 9223372036854775807) ∧ 0 ≤ x.2 ∧ x.2 ≤ 9223372036854775807) :
    Calls Tryz.prog 141 #[v, .func (.func 116) #[] #[]] w fun e w' => e = .returned (.string ⟨(joinT (l.map toldT)).toArray⟩) ∧ Below w.heap.size w w' := by
  have HI : Hid (∀ k, k < l.length → ∀ u : World, Below w.heap.size w u → Calls Tryz.prog 116 #[.agg #[.int .i64 (l.getD k (0, 0)).1, .int .i64 (l.getD k (0, 0)).2]] u fun e w' => e = .returned (.string ⟨(toldT (l.getD k (0, 0))).toArray⟩) ∧ Below u.heap.size u w') := fun k hk u hu => by
    have := hn (l.getD k (0, 0)) (getD_mem l k hk (0, 0))
    exact rfraction _ u (ht.later hu) this.1.1 this.1.2 this.2.1 this.2.2
  have HC : Hid (∀ i, i < l.length → ∃ b off, v = .slice (some ⟨b, off, none⟩) l.length (match v with | .slice _ _ c => c | _ => 0) ∧ ∀ u, Below w.heap.size w u → u.cell? ⟨b, off + i * 2, none⟩ = some (.int .i64 (l.getD i (0, 0)).1) ∧ u.cell? ⟨b, off + i * 2 + 1, none⟩ = some (.int .i64 (l.getD i (0, 0)).2)) := fun i hi => by
    obtain ⟨a, cap, rfl, _, h⟩ := hv
    rcases h with h | ⟨b, off, rfl, h, _⟩
    · rw [h] at hi; simp at hi
    · exact ⟨b, off, rfl, fun u hu => ⟨cell_later hu (h i hi).1, cell_later hu (h i hi).2⟩⟩
  obtain ⟨a, cap, rfl, ⟨hcap, _⟩, _⟩ := hv
  have HS : Hid (∀ k, k < l.length → (l.map toldT).take (k + 1) = (l.map toldT).take k ++ [toldT (l.getD k (0, 0))]) := fun k hk => by
    rw [List.take_add_one, List.getElem?_map, List.getD, List.getElem?_eq_getElem hk]; rfl
  have HLn : Hid ((l.map toldT).length = l.length) := by show _ = _; simp
  have HJ : Hid (∀ (g : Nat) (u : World), RowAt u g 9 ((l.map toldT).map txtV) → Calls Tryz.prog 149 #[.slice (some ⟨g, 0, none⟩) l.length l.length, .string ⟨#[32]⟩] u fun e w' => e = .returned (.string ⟨(joinT (l.map toldT)).toArray⟩) ∧ Below u.heap.size u w') := fun g u hr => by
    have := rjoin (l.map toldT) g u hr (by simpa using hl) (fun t h => by obtain ⟨x, _, rfl⟩ := List.mem_map.1 h; exact toldT_len x)
    simpa using this
  generalize l.map toldT = L at *
  obtain ⟨i0, hi, hz0, hz1, hz2⟩ := info_parts infoStr
  obtain ⟨A, hA, hmk⟩ : ∃ A : Array Value, A.toList = (List.replicate l.length ([] : Txt)).map txtV ∧ ∀ u : World, (Instr.makeSlice 50 (.int .i64 l.length) (.int .i64 l.length)).run Tryz.prog u = .ok (.slice (some ⟨u.heap.size, 0, none⟩) l.length l.length) (u.alloc (.cells A 9)) := by
    refine ⟨madeCells #[.string ByteArray.empty] l.length, madeS _, fun u => ?_⟩
    have hr := run_make (P := Tryz.prog) u 50 9 i0 (.string ByteArray.empty) Tryz.underlying50 hi hz0 .i64 .i64 l.length l.length (by omega) (Int.le_refl _) (by rw [hz2]; omega) (by omega)
    simpa [hz1, Value.cells] using hr
  have S3 : Hid (RowAt (w.alloc (.cells A 9)) w.heap.size 9 ((L.take 0 ++ List.replicate (l.length - 0) []).map txtV)) := by
    rw [List.take_zero]
    exact row_made _ _ _ _ _ rfl hA
  have B3 : Hid (Below w.heap.size w (w.alloc (.cells A 9))) := (Below.refl _ _).alloc (Nat.le_refl _) _
  clear hA hn ht
  generalize joinT L = R at *
  go_enter Tryz.func141, Tryz.ntmps141
  go_wp2_with fail
  go_loopw [6, 7, 13] (fun _ _ i wr => ∃ k : Nat, k ≤ l.length ∧ i = .int .i64 k ∧ Hid (RowAt wr w.heap.size 9 ((L.take k ++ List.replicate (l.length - k) []).map txtV)) ∧ Hid (Below w.heap.size w wr)) (fun _ _ i _ => l.length - (intOf i).toNat)
  case atStart => exact ⟨0, by omega, rfl, S3, B3⟩
  case round =>
    clear S3 B3
    obtain ⟨k, hk, rfl, hro, hbel⟩ := hrel
    by_cases hlt : k < l.length
    · obtain ⟨b, off, e1, hc⟩ := HC.out k hlt
      simp only [Value.slice.injEq, true_and, and_true] at e1
      subst e1
      obtain ⟨c0, c1⟩ := hc wr hbel.out
      have hbo := World.block_lt_of_cell? _ _ c0
      have HI0 : Hid (∀ o, Calls Tryz.prog 116 #[.agg #[.int .i64 (l.getD k (0, 0)).1, .int .i64 (l.getD k (0, 0)).2]] (wr.alloc o) fun e w' => e = .returned (.string ⟨(toldT (l.getD k (0, 0))).toArray⟩) ∧ Below (wr.alloc o).heap.size (wr.alloc o) w') := fun o => HI.out k hlt _ (Bel.more hbel.out (Nat.le_refl _) o)
      have hs := HS.out k hlt
      have hLl : (L.take k).length = k := by rw [List.length_take, HLn.out]; omega
      have HNx : Hid (∀ (o : Obj) (u : World), Below (wr.alloc o).heap.size (wr.alloc o) u → RowAt (u.setCell ⟨w.heap.size, k, none⟩ (.string ⟨(toldT (l.getD k (0, 0))).toArray⟩)) w.heap.size 9 ((L.take (k + 1) ++ List.replicate (l.length - (k + 1)) []).map txtV) ∧ Below w.heap.size w (u.setCell ⟨w.heap.size, k, none⟩ (.string ⟨(toldT (l.getD k (0, 0))).toArray⟩)) ∧ (∃ z, u.cell? ⟨w.heap.size, k, none⟩ = some z) ∧ u.frozen? ⟨w.heap.size, k, none⟩ = false ∧ w.heap.size < u.heap.size) := fun o u hu0 => by
        have hu : Below wr.heap.size wr u := Bel.call ((Below.refl _ _).alloc (Nat.le_refl _) o) (by simp) hu0
        have hr := hro.out.later hu hro.out.lt
        refine ⟨wrote_row hr hLl hlt hs, (Bel.call hbel.out (Nat.le_refl _) hu).setCell (Nat.le_refl _) _, ?_, hr.frozen k, hr.lt⟩
        have hlen : k < ((L.take k ++ List.replicate (l.length - k) []).map txtV).length := by have := HLn.out; simp; omega
        exact ⟨_, hr.cell (List.getElem?_eq_getElem hlen)⟩
      clear hs hLl hro hc HI HC HS
      generalize toldT (l.getD k (0, 0)) = D at *
      generalize l.getD k (0, 0) = x at *
      go_wp2_with fail
      refine (HI0.out _).mono ?_
      rintro e w2 ⟨rfl, hb2⟩
      obtain ⟨g1, g2, ⟨z, g3⟩, g4, g5⟩ := HNx.out _ w2 hb2
      have G1 : Hid _ := g1
      have G2 : Hid _ := g2
      clear g1 g2 hb2 HI0 HNx
      go_wp2
      go_roundw
      case rel => exact ⟨k + 1, by omega, by go_num, G1, G2⟩
      case measure => simp [intOf]; omega
    · obtain rfl : k = l.length := by omega
      have hro2 : RowAt wr w.heap.size 9 (L.map txtV) := by
        have := hro.out
        rw [Nat.sub_self, List.take_of_length_le (by rw [HLn.out]; exact Nat.le_refl _)] at this
        simpa using this
      have HJ1 := HJ.out _ wr hro2
      clear HI HC HS HJ hro2
      go_wp2_with fail
      refine HJ1.mono ?_
      rintro e w2 ⟨rfl, hb2⟩
      go_wp2
      go_ret
      exact ⟨rfl, Bel.call hbel.out (Nat.le_refl _) hb2⟩

theorem rfractions (Q : Nat → Prop) (l : List (Int × Int)) (v : Value) (w : World) (ht : TabAt w) (hv : FracsAt Q w v l) (hl : l.length ≤ 1000000) (hn : ∀ x ∈ l, (0 ≤ x.1 ∧ x.1 ≤ 9223372036854775807) ∧ 0 ≤ x.2 ∧ x.2 ≤ 9223372036854775807) :
    Calls Tryz.prog 113 #[v] w fun e w' => e = .returned (.string ⟨(if l = [] then [45] else joinT (l.map toldT)).toArray⟩) ∧ Below w.heap.size w w' := by
  have HW := rwritten_frac Q l v w ht hv hl hn
  obtain ⟨a, cap, rfl, _, _⟩ := hv
  by_cases h0 : l = []
  · rw [if_pos h0]
    subst h0
    clear HW
    go_enter Tryz.func113, Tryz.ntmps113
    go_wp2
    go_ret
    exact ⟨rfl, Below.refl _ _⟩
  · rw [if_neg h0]
    have hp : 0 < l.length := List.length_pos_iff.2 h0
    generalize joinT (l.map toldT) = R at *
    clear hn h0 ht
    go_enter Tryz.func113, Tryz.ntmps113
    go_wp2_with fail
    refine HW.mono ?_
    rintro e w2 ⟨rfl, hb2⟩
    go_wp2
    go_ret
    exact ⟨rfl, hb2⟩
end Ev
end Go.Proofs.YtpnmmmlckdkcdakGreatDoor

/- A strings.Builder that a call has made: what it holds, which blocks are its own, and that a write changes no other block. -/
namespace Go.Proofs.YtpnmmmlckdkcdakGreatDoor
namespace Ev
open Go.RowKit Fr Ns Ld Fl
set_option linter.unusedSimpArgs false
set_option linter.unusedVariables false

/-- the builder at block b holds these bytes, in blocks of F -/
structure BldAt (u : World) (b : Nat) (F : Nat → Prop) (p : Value) (v : Value) (l : Txt) : Prop where
  row : RowAt u b 91 [p, v]
  own : u.ownsRow 0 5 1 v l.length (Lib.byteCells l)
  inB : F b
  inV : ∀ g, v.ownBlock = some g → F g
def Bld (u : World) (b : Nat) (F : Nat → Prop) (l : Txt) : Prop := ∃ p v, (p = .pointer none ∨ p = .pointer (some ⟨b, 0, none⟩)) ∧ BldAt u b F p v l ∧ ∀ k, F k → k < u.heap.size
/-- what a write leaves of it -/
def BldTo (b : Nat) (F : Nat → Prop) (l : Txt) (u w' : World) : Prop := ∃ F', Bld w' b F' l ∧ (∀ k, F' k → F k ∨ u.heap.size ≤ k) ∧ ButIn F u w'
section
variable {u u' w w' : World} {b : Nat} {F : Nat → Prop} {p v : Value} {l : Txt}
theorem BldAt.ne (h : BldAt u b F p v l) : v.ownBlock ≠ some b := fun e => by
  obtain ⟨_, _, cur, hc⟩ := own_lt h.own e
  have := h.row
  unfold RowAt at this
  rw [hc] at this
  injection this with this
  injection this with _ h2
  revert h2
  decide
theorem BldAt.keep (h : BldAt u b F p v l) (hk : ∀ k, F k → u'.heap[k]? = u.heap[k]?) : BldAt u' b F p v l :=
  ⟨by unfold RowAt; rw [hk b h.inB]; exact h.row, own_keep (fun g hg => hk g (h.inV g hg)) h.own, h.inB, h.inV⟩
theorem Bld.lt (h : Bld u b F l) : ∀ k, F k → k < u.heap.size := by obtain ⟨p, v, _, _, h⟩ := h; exact h
theorem Bld.keep (h : Bld u b F l) (hz : u.heap.size ≤ u'.heap.size) (hk : ∀ k, F k → u'.heap[k]? = u.heap[k]?) : Bld u' b F l := by
  obtain ⟨p, v, hp, h, hl⟩ := h
  exact ⟨p, v, hp, h.keep hk, fun k hk' => Nat.lt_of_lt_of_le (hl k hk') hz⟩
end
theorem app_str_at {P : Program} (w : World) (t u ty e : TypeId) (i : TypeInfo) (ht : P.underlying t = some (.slice e)) (hu : P.underlying u = some .string) (hi : P.info? e = some i) (hz : i.zero = some (.int .u8 0))
    (hsize : i.size = 1) (hby : i.bytes = 1) (v : Value) (n : Nat) (xs : List Value) (hown : w.ownsRow 0 e 1 v n xs) (s : ByteArray) (h63 : n + s.size ≤ maxLen) (hbytes : n + s.size ≤ 140737488355328) :
    ∃ v' w', (Builtin.append_ #[t, u] ty #[v, .string s]).run P w = .ok v' w' ∧ w'.ownsRow 0 e 1 v' (n + s.size) (xs ++ Lib.strCells s) ∧ w.grownBy w' v.ownBlock ∧ ∀ g, v'.ownBlock = some g → v.ownBlock = some g ∨ w.heap.size ≤ g := by
  by_cases hv : v = .slice none 0 0
  · obtain ⟨v', w', h1, h2, h3, _⟩ := Lib.run_append_own_string (P := P) w w.heap.size t u ty e i ht hu hi hz hsize hby v n xs (own_base (fun g hg => by subst hv; simp [Value.ownBlock] at hg) hown) s h63 hbytes (Nat.le_refl _)
    exact ⟨v', w', h1, own_base (fun _ _ => Nat.zero_le _) h2, h3, fun g hg => .inr (own_lt h2 hg).1⟩
  · obtain ⟨v', w', h1, h2, h3, _⟩ := Lib.run_append_own_string (P := P) w 0 t u ty e i ht hu hi hz hsize hby v n xs hown s h63 hbytes (Nat.zero_le _)
    refine ⟨v', w', h1, h2, h3, ?_⟩
    rcases hown.2 with ⟨rfl, _⟩ | ⟨g, cap, cur, rfl, hbg, hg, hnc, hcm, hcs, htake⟩
    · exact absurd rfl hv
    · have hxl : xs.length = n := by simpa using hown.1
      by_cases hroom : n + s.size ≤ cap
      · have hr := Lib.run_append_room_string (P := P) w t u ty e i ht hu hi hsize g n cap cur hg s hroom (by rw [hcs]; omega)
        rw [hr] at h1
        injection h1 with e1 e2
        subst e1
        intro g' hg'
        exact .inl hg'
      · have holds : ∀ j u, xs[j]? = some u → w.cell? ((⟨g, 0, none⟩ : Addr).add j) = some u := hown.cells (g := g) rfl
        have hr := Lib.run_append_grow_string (P := P) w t u ty e i (.int .u8 0) ht hu hi hz ⟨g, 0, none⟩ n cap xs (by rw [hsize]; simpa using hxl) holds s (by omega) (by unfold maxLen at h63; omega) (by rw [hby]; exact growslice_fits (by omega) (by omega))
        rw [hr] at h1
        injection h1 with e1 e2
        subst e1
        intro g' hg'
        simp [Value.ownBlock] at hg'
        exact .inr (by omega)
theorem wpList_app_str {P : Program} {w : World} {ops : Array Oper} {rest : List Oper} {o : Oper} {a : Act} {Q : Exit → Act → World → Prop} (hgd : o.guard = none) (sl x : Operand) (t u : TypeId)
    (ho : o.op = .call { callee := .builtin .append, args := #[sl, x], argTypes := #[t, u] })
    (e : TypeId) (i : TypeInfo) (ht : P.underlying t = some (.slice e)) (hu : P.underlying u = some .string) (hi : P.info? e = some i) (hz : i.zero = some (.int .u8 0)) (hsize : i.size = 1) (hby : i.bytes = 1)
    (v : Value) (n : Nat) (xs : List Value) (hs : a.eval sl = v) (hown : w.ownsRow 0 e 1 v n xs) (s : ByteArray) (hx : a.eval x = .string s) (h63 : n + s.size ≤ maxLen) (hbytes : n + s.size ≤ 140737488355328)
    (h : ∀ v' w', w'.ownsRow 0 e 1 v' (n + s.size) (xs ++ Lib.strCells s) → w.grownBy w' v.ownBlock → (∀ g, v'.ownBlock = some g → v.ownBlock = some g ∨ w.heap.size ≤ g) → wpList P ops Q rest (a.put o.dst v') w') : wpList P ops Q (o :: rest) a w := by
  refine wpList_plain hgd fun K hK => ?_
  obtain ⟨v', w', hr, h2, h3, h4⟩ := app_str_at (P := P) w t u o.type e i ht hu hi hz hsize hby v n xs hown s h63 hbytes
  unfold Oper.wp execOp
  simp only [ho, resolve, invoke, builtin, Sem.run_bind, Sem.run_pure, Result.andThen_ok, List.map_toArray, List.map_cons, List.map_nil, hs, hx, hr]
  exact hK _ _ (h v' w' h2 h3 h4)
theorem bcopy {u : World} {b : Nat} {F : Nat → Prop} {l : Txt} (h : Bld u b F l) :
    Calls Tryz.prog 81 #[.pointer (some ⟨b, 0, none⟩)] u fun e w' => ∃ v, e = .returned (.tuple #[]) ∧ BldAt w' b F (.pointer (some ⟨b, 0, none⟩)) v l ∧ ButIn F u w' ∧ w'.heap.size = u.heap.size := by
  obtain ⟨p, v, hp, h, _⟩ := h
  have hr := h.row
  rcases hp with rfl | rfl
  · have := Any.Builder_copyCheck_fresh (P := Tryz.prog) (ρ := Tryz.lays156_ren) { Tryz.lays156 with } Tryz.Builder_Extra_156.toX72 b u (hr.cell (i := 0) rfl) (by unfold RowAt at hr; simp [World.shape?, hr]; rfl) (hr.frozen 0)
    refine Calls.mono this ?_
    rintro e w' ⟨rfl, rfl⟩
    refine ⟨v, rfl, ⟨hr.set 0 _, own_keep (fun g hg => stay_set u b 0 g _ (fun e => h.ne (by rw [← e]; exact hg))) h.own, h.inB, h.inV⟩, ⟨(Below.refl 0 u).setCell (Nat.zero_le _) _, fun k _ hk => stay_set u b 0 k _ (fun e => hk (e ▸ h.inB))⟩, by simp⟩
  · have := Any.Builder_copyCheck_used (P := Tryz.prog) (ρ := Tryz.lays156_ren) { Tryz.lays156 with } Tryz.Builder_Extra_156.toX72 b u (hr.cell (i := 0) rfl)
    refine Calls.mono this ?_
    rintro e w' ⟨rfl, rfl⟩
    exact ⟨v, rfl, h, ButIn.refl _ _, rfl⟩
/-- behind the append: the new row is the builder's -/
theorem bld_put {u w1 w2 : World} {b : Nat} {F : Nat → Prop} {v v' : Value} {l l' : Txt} (h : BldAt w1 b F (.pointer (some ⟨b, 0, none⟩)) v l) (hb : ButIn F u w1) (hl : ∀ k, F k → k < u.heap.size) (hz : u.heap.size ≤ w1.heap.size)
    (hown : w2.ownsRow 0 5 1 v' l'.length (Lib.byteCells l')) (hg : w1.grownBy w2 v.ownBlock) (hloc : ∀ g, v'.ownBlock = some g → v.ownBlock = some g ∨ w1.heap.size ≤ g) :
    RowAt w2 b 91 [.pointer (some ⟨b, 0, none⟩), v] ∧ BldTo b F l' u (w2.setCell ⟨b, 1, none⟩ v') := by
  have hbl : b < w1.heap.size := h.row.lt
  have r2 : RowAt w2 b 91 [.pointer (some ⟨b, 0, none⟩), v] := by
    have := h.row
    unfold RowAt at this ⊢
    rw [hg.block b hbl (fun e => h.ne e.symm)]; exact this
  have hne : v'.ownBlock ≠ some b := fun e => by
    rcases hloc b e with q | q
    · exact h.ne q
    · omega
  have hsz : w1.heap.size ≤ w2.heap.size := hg.size
  have hK : ∀ k, k < w1.heap.size → k ≠ b → v.ownBlock ≠ some k → (w2.setCell ⟨b, 1, none⟩ v').heap[k]? = w1.heap[k]? := fun k q1 q2 q3 => (stay_set w2 b 1 k _ q2).trans (hg.block k q1 (fun e => q3 e.symm))
  refine ⟨r2, fun k => (F k ∨ u.heap.size ≤ k) ∧ k < w2.heap.size, ⟨_, v', .inr rfl, ⟨r2.set 1 _, own_keep (fun g hg' => stay_set w2 b 1 g _ (fun e => hne (by rw [← e]; exact hg'))) hown, ⟨.inl h.inB, by omega⟩, fun g hg' => ⟨?_, (own_lt hown hg').2.1⟩⟩, fun k hk => by simpa using hk.2⟩, fun k hk => hk.1, ?_⟩
  · rcases hloc g hg' with q | q
    · exact .inl (h.inV g q)
    · exact .inr (by omega)
  · refine ⟨(hb.1.trans ?_).setCell (Nat.zero_le _) _, fun k q1 q2 => (hK k (by omega) (fun e => q2 (e ▸ h.inB)) (fun e => q2 (h.inV k e))).trans (hb.2 k q1 q2)⟩
    exact ⟨hg.os, hg.tape, hg.output, hg.size, fun k hk => absurd hk (Nat.not_lt_zero k)⟩
theorem infoU8 : (Tryz.prog.info? 5).map (fun i => (i.zero, i.size, i.bytes)) = some (some (.int .u8 0), 1, 1) := by kernel_rfl

set_option maxHeartbeats 1000000 in
theorem bwrite {u : World} {b : Nat} {F : Nat → Prop} {l : Txt} (s : Txt) (h : Bld u b F l) (hl : l.length + s.length ≤ 1000000000) :
    Calls Tryz.prog 47 #[.pointer (some ⟨b, 0, none⟩), .string ⟨s.toArray⟩] u fun e w' => e = .returned (.tuple #[.int .i64 s.length, .nilIface]) ∧ BldTo b F (l ++ s) u w' := by
  obtain ⟨i0, hi, hz0, hz1, hz2⟩ := info_parts infoU8
  have HC := bcopy h
  have HL : Hid (∀ k, F k → k < u.heap.size) := h.lt
  have hsz : (⟨s.toArray⟩ : ByteArray).size = s.length := txt_len s
  clear h
  go_enter Tryz.func47, Tryz.ntmps47
  go_wp2_with fail
  refine HC.mono ?_
  rintro e w1 ⟨v, rfl, h1, hb1, hz⟩
  have HO : Hid (w1.ownsRow 0 5 1 v l.length (Lib.byteCells l)) := h1.own
  have c1 := h1.row.cell (i := 1) rfl
  have HP : Hid (∀ (w2 : World) (v' : Value), w2.ownsRow 0 5 1 v' (l.length + s.length) (Lib.byteCells l ++ Lib.byteCells s) → w1.grownBy w2 v.ownBlock → (∀ g, v'.ownBlock = some g → v.ownBlock = some g ∨ w1.heap.size ≤ g) →
      RowAt w2 b 91 [.pointer (some ⟨b, 0, none⟩), v] ∧ BldTo b F (l ++ s) u (w2.setCell ⟨b, 1, none⟩ v')) := fun w2 v' q1 q2 q3 => by
    refine bld_put h1 hb1 HL.out (by omega) ?_ q2 q3
    rw [List.length_append, Lib.byteCells_append]; exact q1
  obtain ⟨va, vc, rfl⟩ := owns_shape h1.own
  clear h1 hb1 HC hz
  go_wp2_with (at_builtin; go_must (refine wpList_app_str rfl _ _ 62 9 rfl 5 i0 Tryz.underlying62 Tryz.underlying9 hi hz0 hz1 hz2 _ _ _ rfl HO.out ⟨s.toArray⟩ rfl ?c3 ?c4 ?_))
  case c3 => unfold maxLen; omega
  case c4 => omega
  intro v' w2 hown hgrow hloc
  obtain ⟨r2, hT⟩ := HP.out w2 v' hown hgrow hloc
  have HT : Hid _ := hT
  have d1 := r2.cell (i := 1) rfl
  have x1 := r2.frozen
  have l1 := r2.lt
  obtain ⟨ya, yc, rfl⟩ := owns_shape hown
  clear hT hown hgrow hloc r2
  go_wp2
  exact bodyPost_ret (v := .tuple #[.int .i64 s.length, .nilIface]) (by simp [results, Tryz.results47, go_sem, hsz]) rfl ⟨rfl, HT.out⟩

set_option maxHeartbeats 1000000 in
theorem bbyte {u : World} {b : Nat} {F : Nat → Prop} {l : Txt} (c : UInt8) (h : Bld u b F l) (hl : l.length + 1 ≤ 1000000000) :
    Calls Tryz.prog 49 #[.pointer (some ⟨b, 0, none⟩), .int .u8 c.toNat] u fun e w' => e = .returned .nilIface ∧ BldTo b F (l ++ [c]) u w' := by
  obtain ⟨i0, hi, hz0, hz1, hz2⟩ := info_parts infoU8
  have HC := bcopy h
  have HL : Hid (∀ k, F k → k < u.heap.size) := h.lt
  clear h
  go_enter Tryz.func49, Tryz.ntmps49
  go_wp2_with fail
  refine HC.mono ?_
  rintro e w1 ⟨v, rfl, h1, hb1, hz⟩
  have HO : Hid (w1.ownsRow 0 5 1 v l.length (Lib.byteCells l)) := h1.own
  have c1 := h1.row.cell (i := 1) rfl
  have l0 := h1.row.lt
  have HP : Hid (∀ (w2 : World) (v' : Value) (o : Obj), w2.ownsRow 0 5 1 v' (l.length + 1) (Lib.byteCells l ++ [.int .u8 c.toNat]) → (w1.alloc o).grownBy w2 v.ownBlock → (v'.ownBlock = v.ownBlock ∨ v'.ownBlock = some (w1.heap.size + 1)) →
      RowAt w2 b 91 [.pointer (some ⟨b, 0, none⟩), v] ∧ BldTo b F (l ++ [c]) u (w2.setCell ⟨b, 1, none⟩ v')) := fun w2 v' o q1 q2 q3 => by
    refine bld_put h1 hb1 HL.out (by omega) ?_ ((World.grownBy_alloc _ _ _).trans q2) (fun g hg => ?_)
    · rw [List.length_append, Lib.byteCells_append]; exact q1
    · rcases q3 with q | q
      · exact .inl (q ▸ hg)
      · rw [q] at hg
        simp at hg
        exact .inr (by omega)
  obtain ⟨va, vc, rfl⟩ := owns_shape h1.own
  clear h1 hb1 HC hz
  go_wp2_with (at_builtin; go_must (refine wpList_append_own_at _ rfl _ _ 62 rfl 0 5 i0 (.int .u8 0) 1 1 Tryz.underlying62 hi hz0 hz1 hz2 rfl (by decide) _ _ _ rfl (HO.out.alloc _) ⟨w1.heap.size, 0, none⟩ 1 1 [.int .u8 c.toNat] rfl rfl (cell_one_new _ _ _) ?c2 ?c3 ?c4 (Nat.zero_le _) ?_))
  case c2 => intro x hx; simp at hx; subst hx; rfl
  case c3 => unfold maxLen; omega
  case c4 => omega
  intro v' w2 hown hgrow _ hloc
  obtain ⟨r2, hT⟩ := HP.out w2 v' _ hown hgrow hloc
  have HT : Hid _ := hT
  have d1 := r2.cell (i := 1) rfl
  have x1 := r2.frozen
  have l1 := r2.lt
  obtain ⟨ya, yc, rfl⟩ := owns_shape hown
  clear hT hown hgrow hloc r2
  go_wp2
  go_ret
  exact ⟨rfl, HT.out⟩
theorem bstring {u : World} {b B : Nat} {F : Nat → Prop} {l : Txt} (h : Bld u b F l) (hF : ∀ k, F k → B ≤ k) (hB : B ≤ u.heap.size) :
    Calls Tryz.prog 50 #[.pointer (some ⟨b, 0, none⟩)] u fun e w' => e = .returned (.string ⟨l.toArray⟩) ∧ Below B u w' ∧ Lib.OthersKept 5 (some b) u w' := by
  obtain ⟨p, v, hp, h, _⟩ := h
  have hf : Lib.BuilderAtF 91 5 B b p (Lib.byteCells l) u := ⟨hF b h.inB, v, h.row, by rw [Lib.byteCells_length]; exact World.ownsRowF_of (own_base (fun g hg => hF g (h.inV g hg)) h.own), h.ne⟩
  refine (Tryz.Builder_String_any_k B b l u ?_ hB).mono ?_
  · rcases hp with rfl | rfl
    · exact .inl hf
    · exact .inr hf
  · rintro e w' ⟨rfl, _, hb, ho⟩
    exact ⟨rfl, hb, ho⟩
end Ev
end Go.Proofs.YtpnmmmlckdkcdakGreatDoor
