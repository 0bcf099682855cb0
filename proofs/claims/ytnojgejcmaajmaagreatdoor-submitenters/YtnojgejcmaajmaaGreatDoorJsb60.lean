/- slices.DeleteFunc of a row of numbers, or of attributes, of the call's own. The program's formOf, owned of layer 16 and their closures. -/
import Derived.Test.YtnojgejcmaajmaaGreatDoorJsb58
import Derived.Laws.CopyRow
import Derived.Laws.EntriesVeiled

namespace Go.Proofs.YtnojgejcmaajmaaGreatDoor
open Go.RowKit
theorem cellsI_set (ks : List Int) (i : Nat) (z : Int) : (cellsI ks).set i (.int .i64 z) = cellsI (ks.set i z) := by unfold cellsI; rw [List.map_set]
/-- A function value that answers p, in every world that differs from w in blocks of S and new ones. -/
def PredX (g : Nat) (lb : Array Value) {α : Type} (enc : α → Value) (p : α → Bool) (S : List Nat) (w : World) : Prop :=
  ∀ (W : World) (x : α), Chg S w W → Calls Tryz.prog g (#[enc x] ++ lb) W fun e w' => e = .returned (.bool (p x)) ∧ Below W.heap.size W w'
/-- A row, its tail made nought. -/
theorem run_clear_own {P : Program} (w : World) (t e ty : TypeId) (z : Value) (ht : P.underlying t = some (.slice e)) (hv : ∀ w, (zeroValue e).run P w = .ok z w) (size : Nat) (hz : z.cells.size = size) (hs : 0 < size) (h1 : ∀ u ∈ z.cells, u.oneCell' = true)
    {base : Nat} {g n c : Nat} {ys : List Value} (hown : w.ownsRow base e size (.slice (some ⟨g, 0, none⟩) n c) n ys) (i c' : Nat) (hi : i < n) :
    ∃ w' ys', (Builtin.clear_ #[t] ty #[.slice (some ⟨g, i * size, none⟩) (n - i) c']).run P w = .ok (.tuple #[]) w' ∧ w'.ownsRow base e size (.slice (some ⟨g, 0, none⟩) n c) n ys' ∧ ys'.take (i * size) = ys.take (i * size) ∧ Chg [g] w w' := by
  obtain ⟨hl, hown⟩ := hown
  rcases hown with ⟨q, _⟩ | ⟨g', cap, cur, e0, hb, hg, k1, k2, k3, k4⟩
  · cases q
  · cases e0
    have zl : (Builtin.zeroCells z.cells (n - i)).toList.length = (n - i) * size := by rw [Array.length_toList, size_zeroCells, hz]
    have fit : i * size + (n - i) * size = n * size := by rw [← Nat.add_mul]; congr 1; omega
    have fit2 : n * size ≤ c * size := Nat.mul_le_mul_right _ k1
    have hst := run_storeCells_at P g (i * size) e (Builtin.zeroCells z.cells (n - i)).toList 0 cur w hg (by rw [zl, k3]; omega) (fun u hu => by
      rw [Array.mem_toList_iff] at hu
      unfold Builtin.zeroCells at hu
      obtain ⟨k, hk, rfl⟩ := Array.mem_map.1 hu
      have hlt : k % z.cells.size < z.cells.size := Nat.mod_lt _ (by omega)
      rw [getElem!_pos z.cells _ hlt]
      exact h1 _ (Array.getElem_mem _))
    rw [Nat.add_zero] at hst
    have hn : ¬ n - i = 0 := by omega
    refine ⟨w.setRow g (cur.toList.take (i * size) ++ (Builtin.zeroCells z.cells (n - i)).toList ++ cur.toList.drop (i * size + (Builtin.zeroCells z.cells (n - i)).toList.length)).toArray, _, ?_, ⟨?_, .inr ⟨g, c, _, rfl, hb, setRow_heap w g cur _ e _ hg, k1, k2, ?_, rfl⟩⟩, ?_, ?_⟩
    · obtain ⟨m, hm⟩ : ∃ m, n - i = m + 1 := ⟨n - i - 1, by omega⟩
      rw [hm] at hst ⊢
      simp [Builtin.clear_, run_underlying ht, hv, hst]
    · simp only [List.length_take, List.length_append, List.length_drop, Array.length_toList, zl, k3]
      omega
    · simp only [List.size_toArray, List.length_append, List.length_take, List.length_drop, Array.length_toList, zl, k3]
      omega
    · rw [List.take_take, Nat.min_eq_left (by omega), List.append_assoc, List.take_append_of_le_length (by rw [List.length_take, Array.length_toList, k3]; omega), List.take_take, Nat.min_self, ← k4, List.take_take, Nat.min_eq_left (by omega)]
    · exact ⟨rfl, rfl, rfl, by simp [World.setRow], fun k _ hn => setRow_other _ _ _ _ (fun e => hn (by rw [e]; simp))⟩
/-- How far deleting has come. -/
structure Del {α : Type} (p : α → Bool) (xs ys : List α) (i j : Nat) : Prop where
  len : ys.length = xs.length
  lt : i < j
  le : j ≤ xs.length
  ahead : ys.take i = (xs.take j).filter fun x => !p x
  rest : ys.drop j = xs.drop j
theorem Del.start {α : Type} {p : α → Bool} {xs : List α} {k : Nat} (hk : k < xs.length) (h1 : p xs[k] = true) (h2 : ∀ j (hj : j < xs.length), j < k → p xs[j] = false) : Del p xs xs k (k + 1) := by
  refine ⟨rfl, by omega, by omega, ?_, rfl⟩
  rw [List.take_succ_eq_append_getElem hk, List.filter_append]
  have : (xs.take k).filter (fun x => !p x) = xs.take k := by
    rw [List.filter_eq_self]
    intro x hx
    obtain ⟨j, hj, rfl⟩ := List.getElem_of_mem hx
    rw [List.length_take] at hj
    rw [List.getElem_take, h2 j (by omega) (by omega)]; rfl
  rw [this]
  simp [h1]
theorem Del.at {α : Type} {p : α → Bool} {xs ys : List α} {i j : Nat} (h : Del p xs ys i j) (hj : j < xs.length) : ys[j]'(by rw [h.len]; exact hj) = xs[j] := by
  have h1 : ys.drop j = ys[j]'(by rw [h.len]; exact hj) :: ys.drop (j + 1) := List.drop_eq_getElem_cons _
  have h2 : xs.drop j = xs[j] :: xs.drop (j + 1) := List.drop_eq_getElem_cons hj
  have := h.rest
  rw [h1, h2] at this
  exact (List.cons.inj this).1
theorem Del.gone {α : Type} {p : α → Bool} {xs ys : List α} {i j : Nat} (h : Del p xs ys i j) (hj : j < xs.length) (hp : p xs[j] = true) : Del p xs ys i (j + 1) := by
  refine ⟨h.len, by have := h.lt; omega, by omega, ?_, ?_⟩
  · rw [List.take_succ_eq_append_getElem hj, List.filter_append, ← h.ahead]
    simp [hp]
  · have h1 : ys.drop (j + 1) = (ys.drop j).tail := by rw [List.tail_drop]
    have h2 : xs.drop (j + 1) = (xs.drop j).tail := by rw [List.tail_drop]
    rw [h1, h2, h.rest]
theorem Del.keep {α : Type} {p : α → Bool} {xs ys : List α} {i j : Nat} (h : Del p xs ys i j) (hj : j < xs.length) (hp : p xs[j] = false) : Del p xs (ys.set i xs[j]) (i + 1) (j + 1) := by
  have hlt := h.lt
  have hl := h.len
  refine ⟨by rw [List.length_set]; exact h.len, by omega, by omega, ?_, ?_⟩
  · rw [List.take_succ_eq_append_getElem hj, List.filter_append, ← h.ahead, List.take_succ_eq_append_getElem (by rw [List.length_set]; omega), List.take_set, List.getElem_set_self]
    have : (ys.take i).set i xs[j] = ys.take i := List.set_eq_of_length_le (by rw [List.length_take]; omega)
    rw [this]
    simp [hp]
  · rw [List.drop_set_of_lt (by omega)]
    have h1 : ys.drop (j + 1) = (ys.drop j).tail := by rw [List.tail_drop]
    have h2 : xs.drop (j + 1) = (xs.drop j).tail := by rw [List.tail_drop]
    rw [h1, h2, h.rest]
theorem Del.count {α : Type} {p : α → Bool} {xs ys : List α} {i j : Nat} (h : Del p xs ys i j) : ((xs.take j).filter fun x => !p x).length = i := by
  rw [← h.ahead, List.length_take]
  have := h.lt; have := h.le; have := h.len
  omega
theorem idxp_hit {ks : List Int} {p : Int → Bool} {k : Nat} (h : k < ks.length) (hp : p ks[k] = true) (hd : ∀ j (hj : j < ks.length), j < k → p ks[j] = false) : ks.findIdx? p = some k := by
  rw [List.findIdx?_eq_some_iff_getElem]
  exact ⟨h, hp, fun j hj => by rw [hd j (by omega) hj]; decide⟩
theorem idxp_miss {ks : List Int} {p : Int → Bool} (hd : ∀ j (hj : j < ks.length), p ks[j] = false) : ks.findIdx? p = none := by
  rw [List.findIdx?_eq_none_iff]
  intro x hx
  obtain ⟨j, hj, rfl⟩ := List.getElem_of_mem hx
  exact hd j hj
set_option maxHeartbeats 2000000 in
theorem indexFuncI_any (v : Value) (ks : List Int) (p : Int → Bool) (g : Nat) (lb : Array Value) (eg : ∀ args w, (callFunc g args).run Tryz.prog w = .ok (.enter g args) w) (S : List Nat) (w : World) (hv : IntsV w v ks) (hp : PredX g lb (Value.int .i64) p S w) (hl : ks.length ≤ 17592186044416) :
    Calls Tryz.prog 122 #[v, .func (.func g) #[] lb] w fun e w' => e = .returned (.int .i64 (findV (ks.findIdx? p))) ∧ Below w.heap.size w w' := by
  obtain ⟨pp, c, rfl, hv⟩ := hv
  have HIT := hide (fun k h h1 h2 => idxp_hit (ks := ks) (p := p) (k := k) h h1 h2)
  have MISS := hide (fun h => idxp_miss (ks := ks) (p := p) h)
  generalize ks.findIdx? p = R at *
  have HP := hide hp
  clear hp
  go_enter Tryz.func122, Tryz.ntmps122
  go_wp2_with fail
  go_loopw [8] (fun iv wr => ∃ k : Nat, k ≤ ks.length ∧ iv = .int .i64 k ∧ Hid (∀ j (hj : j < ks.length), j < k → p ks[j] = false) ∧ Hid (Below w.heap.size w wr)) (fun iv _ => ks.length - (intOf iv).toNat)
  case atStart => exact ⟨0, Nat.zero_le _, rfl, fun j _ q => by omega, Below.refl _ _⟩
  case round =>
    rename World => wr
    obtain ⟨k, hk, rfl, hd, BW⟩ := hrel
    by_cases h : k < ks.length
    · have i1 : (k : Int) < (ks.length : Int) := by omega
      rcases hv with hv | ⟨b, o, rfl, hv⟩
      · rw [hv] at h; simp at h
      have c0 := cell_below (hv k h) BW.out
      have HC := hide (HP.out wr ks[k] (Chg.of_below BW.out).nil)
      have HK := hide (HIT.out k h)
      have ND := hide (fun q : p ks[k] = false => (fun j (hj : j < ks.length) (r : j < k + 1) => by
        rcases Nat.lt_or_ge j k with t | t
        · exact hd.out j hj t
        · obtain rfl : j = k := by omega
          exact q : ∀ j (hj : j < ks.length), j < k + 1 → p ks[j] = false))
      clear hv HP HIT MISS
      cases q : p ks[k] with
      | true =>
        have E := hide (HK.out q (fun j hj r => hd.out j hj r))
        rw [q] at HC
        clear HK ND q hd
        generalize ks[k] = x1 at *
        go_wp2_with fail
        refine HC.out.mono ?_
        rintro e w' ⟨rfl, hb'⟩
        go_wp2_with fail
        go_ret
        exact ⟨by rw [E.out]; rfl, chain BW.out hb'⟩
      | false =>
        have E := hide (ND.out q)
        rw [q] at HC
        clear HK ND q hd
        generalize ks[k] = x1 at *
        go_wp2_with fail
        refine HC.out.mono ?_
        rintro e w' ⟨rfl, hb'⟩
        go_wp2_with fail
        go_roundw
        case rel => exact ⟨k + 1, by omega, by go_num, E, chain BW.out hb'⟩
        case measure => simp [intOf]; omega
    · obtain rfl : k = ks.length := by omega
      have E := hide (MISS.out (fun j hj => hd.out j hj hj))
      clear HIT MISS hd hv h
      go_wp2_with fail
      go_ret
      exact ⟨by rw [E.out]; rfl, BW.out⟩
set_option maxHeartbeats 4000000 in
set_option maxRecDepth 100000 in
theorem deleteFuncI_any (base : Nat) (v : Value) (xs : List Int) (p : Int → Bool) (g : Nat) (lb : Array Value) (eg : ∀ args w, (callFunc g args).run Tryz.prog w = .ok (.enter g args) w) (w : World) (hown : KidsO base w v xs) (hp : PredX g lb (Value.int .i64) p (v.ownBlock.toList) w) (hl : xs.length ≤ 17592186044416) :
    Calls Tryz.prog 181 #[v, .func (.func g) #[] lb] w fun e w' => ∃ q n c, e = .returned (.slice q n c) ∧ KidsO base w' (.slice q n c) (xs.filter fun x => !p x) ∧ Chg (v.ownBlock.toList) w w' ∧ (Value.slice q n c).ownBlock = v.ownBlock := by
  have HI := hide (indexFuncI_any v xs p g lb eg (v.ownBlock.toList) w hown.ints hp hl)
  have HO := hide hown
  have HP := hide hp
  obtain ⟨pv, nv, cv, ev⟩ : ∃ a n c, v = .slice a n c := by
    rcases hown.2 with ⟨e, _⟩ | ⟨g', cap, cur, e, _⟩
    · exact ⟨_, _, _, e⟩
    · exact ⟨_, _, _, e⟩
  obtain ⟨F, hF⟩ : ∃ F, Hid (xs.findIdx? p = F) := ⟨_, show _ = _ from rfl⟩
  rw [hF.out] at HI
  clear hown hp
  cases F with
  | none =>
    have E : Hid (xs.filter (fun x => !p x) = xs) := by
      show _ = _
      rw [List.filter_eq_self]
      intro x hx
      rw [List.findIdx?_eq_none_iff.1 hF.out x hx]; rfl
    have f1 : findV none = -1 := rfl
    subst ev
    clear hF HP
    go_enter Tryz.func181, Tryz.ntmps181
    go_wp2_with fail
    refine HI.out.mono ?_
    rintro e w1 ⟨rfl, b1⟩
    go_wp2_with fail
    go_ret
    exact ⟨pv, nv, cv, rfl, by rw [E.out]; exact owns_kept HO.out (Chg.of_below b1) (fun _ _ q => by cases q), (Chg.of_below b1).nil, rfl⟩
  | some k =>
    obtain ⟨hk, hk1, hk2⟩ := List.findIdx?_eq_some_iff_getElem.1 hF.out
    have D0 : Hid (Del p xs xs k (k + 1)) := Del.start hk hk1 (fun j hj r => by have := hk2 j r; simpa using this)
    obtain ⟨G, cp, ev2, eb, g0, g1, gc, gm⟩ := owns_at HO.out (by omega)
    rw [ev] at ev2
    obtain ⟨rfl, rfl, rfl⟩ : pv = some ⟨G, 0, none⟩ ∧ nv = xs.length ∧ cv = cp := by cases ev2; exact ⟨rfl, rfl, rfl⟩
    subst ev
    have f1 : ((k : Int) == -1) = false := by rw [beq_eq_false_iff_ne]; omega
    have VB : (Value.slice (some ⟨G, 0, none⟩) xs.length cv).ownBlock = some G := rfl
    have f2 : findV (some k) = (k : Int) := rfl
    have gm' : cv ≤ 9223372036854775807 := by unfold maxLen at gm; omega
    clear hF hk1 hk2 ev2 eb gm
    go_enter Tryz.func181, Tryz.ntmps181
    go_wp2_with fail
    refine HI.out.mono ?_
    rintro e w1 ⟨rfl, b1⟩
    have O1 := hide (owns_kept HO.out (Chg.of_below b1) (fun _ _ q => by cases q))
    have C1 : Hid (Chg [G] w w1) := (Chg.of_below b1).nil
    clear b1 HI HO
    go_wp2_with fail
    go_loopw [5, 6] (fun iv jv wr => ∃ (i j : Nat) (ys : List Int), iv = .int .i64 i ∧ jv = .int .i64 j ∧ Hid (Del p xs ys i j) ∧ Hid (KidsO base wr (.slice (some ⟨G, 0, none⟩) xs.length cv) ys) ∧ Hid (Chg [G] w wr)) (fun _ jv _ => xs.length - (intOf jv).toNat)
    case atStart => exact ⟨k, k + 1, xs, rfl, by go_num, D0, O1, C1⟩
    case round =>
      rename World => wr
      obtain ⟨i, j, ys, rfl, rfl, DD, OO, CC⟩ := hrel
      clear D0 O1 C1
      have ij := DD.out.lt
      have jl := DD.out.le
      have yl := DD.out.len
      have i0 : (0 : Int) ≤ (i : Int) := by omega
      have j0 : (0 : Int) ≤ (j : Int) := by omega
      have i1 : (i : Int) < (xs.length : Int) := by omega
      have i2 : (i : Int) ≤ (xs.length : Int) := by omega
      have i3 : (xs.length : Int) ≤ (cv : Int) := by omega
      have i4 : (i : Int) ≤ (cv : Int) := by omega
      have Glt : G < wr.heap.size := (OO.out.lt G rfl).2
      by_cases h : j < xs.length
      · have j1 : (j : Int) < (xs.length : Int) := by omega
        have hjy : j < ys.length := by omega
        have ey := DD.out.at h
        have cj := cellsI_at (ks := ys) hjy
        have c0 := owns_cell OO.out VB cj
        rw [ey] at c0
        have f0 := owns_free OO.out VB i
        have e0 := owns_cell OO.out VB (cellsI_at (ks := ys) (i := i) (by omega))
        have GN := hide (DD.out.gone h)
        have KP := hide (DD.out.keep h)
        clear cj ey
        obtain ⟨y, hy⟩ : ∃ y, Hid (xs[j] = y) := ⟨xs[j], show _ = _ from rfl⟩
        rw [hy.out] at c0 GN KP
        have HC := hide (HP.out wr y CC.out)
        cases q : p y with
        | true =>
          have D2 := hide (GN.out q)
          rw [q] at HC
          clear GN KP hy q
          go_wp2_with fail
          refine HC.out.mono ?_
          rintro e w3 ⟨rfl, b3⟩
          go_wp2_with fail
          go_roundw
          case rel => exact ⟨i, j + 1, ys, rfl, by go_num, D2, owns_kept OO.out (Chg.of_below b3) (fun _ _ q => by cases q), CC.out.trans (Chg.of_below b3).nil⟩
          case measure => simp [intOf]; omega
        | false =>
          have D2 := hide (KP.out q)
          rw [q] at HC
          clear GN KP hy q
          go_wp2_with fail
          refine HC.out.mono ?_
          rintro e w3 ⟨rfl, b3⟩
          have O3 := hide (owns_kept OO.out (Chg.of_below b3) (fun _ _ q => by cases q))
          have g0' := cell_below e0 b3
          have h0 := owns_free O3.out VB i
          have C3 := hide (Chg.of_below b3)
          clear c0 e0 f0 b3
          go_wp2_with fail
          go_roundw
          case rel =>
            refine ⟨i + 1, j + 1, ys.set i y, by go_num, by go_num, D2, ?_, (CC.out.trans C3.out.nil).trans (Chg.setB _ _ _ _)⟩
            have r := owns_set O3.out VB i (.int .i64 y)
            rw [cellsI_set] at r
            show World.ownsRow _ _ _ _ _ (ys.set i y).length _
            rw [List.length_set]
            exact r
          case measure => simp [intOf]; omega
      · obtain rfl : j = xs.length := by omega
        obtain ⟨wz, zs, CL, OZ, TZ, CZ⟩ := run_clear_own (P := Tryz.prog) wr 55 3 0 (.int .i64 0) Tryz.underlying55 Tryz.zeroValue3 1 rfl (by omega) (fun u hu => by simp [Value.cells] at hu; subst hu; rfl) (by have := OO.out; unfold KidsO at this; rw [yl] at this; exact this) i (cv - i) (by omega)
        have E : Hid (KidsO base wz (.slice (some ⟨G, 0, none⟩) i cv) (xs.filter fun x => !p x)) := by
          have e1 := DD.out.ahead
          have e2 := DD.out.count
          rw [List.take_length] at e1 e2
          refine ⟨?_, ?_⟩
          · rw [e2]; first | rw [cellsI_len, e2, Nat.mul_one] | rw [cellsA_len, e2]
          · obtain ⟨_, q⟩ := OZ
            rcases q with ⟨q, _⟩ | ⟨g', cap, cur, q, h1, h2, h3, h4, h5, h6⟩
            · cases q
            · cases q
              refine .inr ⟨G, cv, cur, by rw [e2], h1, h2, by rw [e2]; omega, h4, h5, ?_⟩
              rw [e2]
              have t1 : cur.toList.take (i * 1) = zs.take (i * 1) := by rw [← h6, List.take_take, Nat.min_eq_left (Nat.mul_le_mul_right _ (by omega))]
              rw [t1, TZ, ← e1]
              simp [cellsI, List.map_take]
        have cl := CL
        first | rw [Nat.mul_one] at cl | skip
        have CF : Hid (Chg [G] w wz) := CC.out.trans CZ
        clear CL OZ TZ CZ h DD
        go_wp2_with fail
        go_ret
        exact ⟨_, _, _, rfl, E.out, CF.out, rfl⟩
end Go.Proofs.YtnojgejcmaajmaaGreatDoor

namespace Go.Proofs.YtnojgejcmaajmaaGreatDoor
open Go.RowKit
set_option maxRecDepth 100000
theorem entF1W : ∀ args w, (callFunc 174 args).run Tryz.prog w = .ok (.enter 174 args) w := Go.Proofs.enters_of Tryz.func174 (by kernel_rfl) rfl
set_option maxHeartbeats 8000000 in
theorem owFormOf1_any (a b : Int) (w : World) :
    Calls Tryz.prog 174 #[.int .i64 a, .int .i64 b] w fun e w' => e = .returned (.bool true) ∧ Below w.heap.size w w' := by
  go_enter Tryz.func174, Tryz.ntmps174
  go_wp2_with fail
  go_ret
  exact ⟨rfl, Below.refl _ _⟩
theorem ints_oneW (w : World) (z : Int) : IntsV (w.alloc (.cells #[.int .i64 z] 3)) (.slice (some ⟨w.heap.size, 0, none⟩) 1 1) [z] := ⟨_, 1, rfl, .inr ⟨w.heap.size, 0, rfl, fun j hj => by
  obtain rfl : j = 0 := by have : j < 1 := hj; omega
  exact (Bk.new w [.int .i64 z] 3).cell 0 rfl⟩⟩
set_option maxHeartbeats 8000000 in
theorem owFormOf_any (v : Value) (l : List Nd) (m : Nat) (g : Nat) (lb : Array Value) (eg : ∀ args w, (callFunc g args).run Tryz.prog w = .ok (.enter g args) w) (f : ByteArray → Int) (w : World) (hf : ∀ s W, Below w.heap.size w W → Calls Tryz.prog g (#[.string s] ++ lb) W fun e w' => e = .returned (.int .i64 (f s)) ∧ Below W.heap.size W w') (hv : NodesV w v l) (hz : DocSz l) (hT : KTabs w) (hR : Right l) (hm : m < l.length) :
    Calls Tryz.prog 117 #[v, .int .i64 (m : Int), .func (.func g) #[] lb] w fun e w' => e = .returned (.int .i64 (frmP l f (m : Int))) ∧ Below w.heap.size w w' := by
  have nz := hz.nds _ (List.getElem_mem hm)
  have HA := hide (fun W (hb : Below w.heap.size w W) => owAbove_any v l m _ is30 suisForm 174 #[] entF1W (fun _ _ => true) W (fun a b _ _ W _ => owFormOf1_any a b W) (hv.below hb) hz (hT.below hb) hR hm)
  have HI := hide (fun W (hb : Below w.heap.size w W) => owIsRooted_any v l m W (hv.below hb) hR hm)
  have HF := hide (fun s W (hb : Below w.heap.size w W) => hf s W hb)
  have HO := hide (fun vk z W (hb : Below w.heap.size w W) (hk : IntsV W vk [z]) => owFirstOf_any v vk l [z] _ is30 suisForm W (hv.below hb) hk hz (hT.below hb) (by simp))
  have E : Hid (frmP l f (m : Int) = if hasA l[m] oForm = true ∧ topP l (m : Int) = 0 then firB l is30 [f (fndS l[m].attrs oForm)] else abvP l is30 (fun _ _ => true) (m : Int)) := by
    show _ = _
    unfold frmP
    rw [Int.toNat_natCast, nd_at hm]
  generalize frmP l f (m : Int) = RES at *
  generalize abvP l is30 (fun _ _ => true) (m : Int) = AB at *
  obtain ⟨p, c, rfl⟩ := nds_formW hv
  obtain ⟨b, o, va, pk, nk, ck, rfl, N⟩ := node_ofW hv hm
  have HN := hide (owFind_any l[m] va pk nk ck oForm w N.at_ nz.attrs)
  obtain ⟨pa, ca, rfl, hxx⟩ := N.at_
  clear hxx
  have c0 := N.name
  have c1 := N.text
  have c2 := N.attrs
  have c3 := N.parent
  have c4 := N.kids
  have m0 : (0 : Int) ≤ (m : Int) := by omega
  have m1 : (m : Int) < (l.length : Int) := by omega
  clear N hv hz hT nz hR hf
  generalize fndS l[m].attrs oForm = nm at *
  generalize hasA l[m] oForm = ha at *
  rw [show oForm = ⟨#[102, 111, 114, 109]⟩ from rfl] at HN
  generalize l[m].name = n0 at *
  generalize l[m].text = n1 at *
  generalize l[m].parent = n3 at *
  generalize l[m].attrs.length = n5 at *
  generalize topP l (m : Int) = T at *
  cases ha with
  | false =>
    rw [if_neg (by rintro ⟨t, _⟩; cases t)] at E
    clear HI HF HO
    go_enter Tryz.func117, Tryz.ntmps117
    go_wp2_with fail
    refine HN.out.mono ?_
    rintro e w1 ⟨rfl, b1⟩
    go_wp2_with fail
    refine (HA.out _ b1).mono ?_
    rintro e w2 ⟨rfl, b2⟩
    go_wp2_with fail
    go_ret
    exact ⟨ret_int E.out.symm, chain b1 b2⟩
  | true =>
    by_cases hT0 : T = 0
    · rw [if_pos ⟨rfl, hT0⟩] at E
      have q0 : (T == 0) = true := by rw [hT0]; rfl
      rw [q0] at HI
      clear HA q0 hT0
      go_enter Tryz.func117, Tryz.ntmps117
      go_wp2_with fail
      refine HN.out.mono ?_
      rintro e w1 ⟨rfl, b1⟩
      go_wp2_with fail
      refine (HI.out _ b1).mono ?_
      rintro e w2 ⟨rfl, b2⟩
      have B2 := hide (chain b1 b2)
      go_wp2_with fail
      refine (HF.out _ _ B2.out).mono ?_
      rintro e w3 ⟨rfl, b3⟩
      have B3 := hide (chain (chain B2.out b3) ((Below.refl _ w3).alloc (Nat.le_refl _) (.cells #[.int .i64 (f nm)] 3)))
      have IV := hide (ints_oneW w3 (f nm))
      generalize f nm = z at *
      go_wp2_with fail
      refine (HO.out _ _ _ B3.out IV.out).mono ?_
      rintro e w4 ⟨rfl, b4⟩
      go_wp2_with fail
      go_ret
      exact ⟨ret_int E.out.symm, chain B3.out b4⟩
    · rw [if_neg (fun t => hT0 t.2)] at E
      have q0 : (T == 0) = false := by rw [beq_eq_false_iff_ne]; exact hT0
      rw [q0] at HI
      clear HO HF q0 hT0
      go_enter Tryz.func117, Tryz.ntmps117
      go_wp2_with fail
      refine HN.out.mono ?_
      rintro e w1 ⟨rfl, b1⟩
      go_wp2_with fail
      refine (HI.out _ b1).mono ?_
      rintro e w2 ⟨rfl, b2⟩
      have B2 := hide (chain b1 b2)
      go_wp2_with fail
      refine (HA.out _ B2.out).mono ?_
      rintro e w3 ⟨rfl, b3⟩
      go_wp2_with fail
      go_ret
      exact ⟨ret_int E.out.symm, chain B2.out b3⟩
theorem entO1W : ∀ args w, (callFunc 178 args).run Tryz.prog w = .ok (.enter 178 args) w := Go.Proofs.enters_of Tryz.func178 (by kernel_rfl) rfl
theorem entO2W : ∀ args w, (callFunc 182 args).run Tryz.prog w = .ok (.enter 182 args) w := Go.Proofs.enters_of Tryz.func182 (by kernel_rfl) rfl
set_option maxHeartbeats 8000000 in
theorem owOwned1_any (s own : ByteArray) (pl : Int) (Bo Bp : Nat) (w : World) (ho : w.cell? ⟨Bo, 0, none⟩ = some (.string own)) (hp : w.cell? ⟨Bp, 0, none⟩ = some (.int .i64 pl)) :
    Calls Tryz.prog 178 #[.string s, .pointer (some ⟨Bo, 0, none⟩), .pointer (some ⟨Bp, 0, none⟩)] w fun e w' => e = .returned (.int .i64 (if s = own then pl else -1)) ∧ Below w.heap.size w w' := by
  by_cases h : s = own
  · rw [if_pos h]
    have q1 : (s.toList == own.toList) = true := by rw [txt_beq, decide_eq_true h]
    have q2 : (s.toList != own.toList) = false := by rw [bne, q1]; rfl
    subst h
    go_enter Tryz.func178, Tryz.ntmps178
    go_wp2_with fail
    go_ret
    exact ⟨rfl, Below.refl _ _⟩
  · rw [if_neg h]
    have q1 : (s.toList == own.toList) = false := by rw [txt_beq, decide_eq_false h]
    have q2 : (s.toList != own.toList) = true := by rw [bne, q1]; rfl
    go_enter Tryz.func178, Tryz.ntmps178
    go_wp2_with fail
    go_ret
    exact ⟨rfl, Below.refl _ _⟩
set_option maxHeartbeats 8000000 in
theorem owOwned2_any (v : Value) (l : List Nd) (fm : Nat) (g : Nat) (q : Int → Bool) (hs : SuchF g q) (Bl Bs Bn Bf Bo Bp : Nat) (w : World) (hv : NodesV w v l) (hz : DocSz l) (hT : KTabs w) (hR : Right l)
    (x1 : w.cell? ⟨Bl, 0, none⟩ = some v) (x2 : w.cell? ⟨Bs, 0, none⟩ = some (.func (.func g) #[] #[])) (x3 : w.cell? ⟨Bn, 0, none⟩ = some (.func (.func 178) #[] #[.pointer (some ⟨Bo, 0, none⟩), .pointer (some ⟨Bp, 0, none⟩)])) (x4 : w.cell? ⟨Bf, 0, none⟩ = some (.int .i64 (fm : Int))) (x5 : w.cell? ⟨Bo, 0, none⟩ = some (.string (ownId l (fm : Int)))) (x6 : w.cell? ⟨Bp, 0, none⟩ = some (.int .i64 (namedP l (ownId l (fm : Int)))))
    (id : Int) :
    Calls Tryz.prog 182 (#[.int .i64 id] ++ #[.pointer (some ⟨Bl, 0, none⟩), .pointer (some ⟨Bs, 0, none⟩), .pointer (some ⟨Bn, 0, none⟩), .pointer (some ⟨Bf, 0, none⟩)]) w fun e w' => e = .returned (.bool (goneB l q (fm : Int) id)) ∧ Below w.heap.size w w' := by
  have HI := hide (fun W (hb : Below w.heap.size w W) => owIsOf_any v l id g q hs W (hv.below hb) hz (hT.below hb))
  have BD : Hid (Below w.heap.size w w.drew) := ⟨rfl, rfl, rfl, Nat.le_refl _, fun _ _ => rfl⟩
  cases ok : okB l q id with
  | false =>
    have E : Hid (goneB l q (fm : Int) id = true) := by show _ = _; unfold goneB; rw [ok]; rfl
    obtain ⟨p, c, rfl⟩ := nds_formW hv
    rw [ok] at HI
    have hu : undef = Value.tuple #[] := rfl
    clear hv hz hT hR x5 x6 ok
    go_enter Tryz.func182, Tryz.ntmps182
    go_wp2_with fail
    refine wp_region_held_drew (S := fun X : World => X.cell? ⟨Bl, 0, none⟩ = some (.slice p l.length c) ∧ X.cell? ⟨Bs, 0, none⟩ = some (.func (.func g) #[] #[]) ∧ X.cell? ⟨Bn, 0, none⟩ = some (.func (.func 178) #[] #[.pointer (some ⟨Bo, 0, none⟩), .pointer (some ⟨Bp, 0, none⟩)]) ∧ X.cell? ⟨Bf, 0, none⟩ = some (.int .i64 (fm : Int))) (by kernel_rfl) ?_ (fun hHeld => ?_)
    · exact ⟨x1, x2, x3, x4⟩
    refine wpAnyH_take (i := 0) (oi := { dst := some 7, op := Op.load 22 (Operand.tmp 1), type := 22, pos := "owner.go:72", after := #[], guard := none }) (v := ?_) rfl (by kernel_rfl) (by kernel_rfl) (by kernel_rfl) (fun _ _ _ h => h) (Or.inl ⟨by rfl, ?_⟩) (by assumption) ?_
    rotate_left
    · (intro w hSw; (try dsimp only at hSw); first | (go_simp; done) | (go_simp; with_reducible rfl))
    simp only [Act.put, List.setIfInBounds_toArray, List.set_cons_zero, List.set_cons_succ]
    refine wpAnyH_take (i := 1) (oi := { dst := some 8, op := Op.move (Operand.tmp 0), type := 3, pos := "owner.go:72", after := #[], guard := none }) (v := ?_) rfl (by kernel_rfl) (by kernel_rfl) (by kernel_rfl) (fun _ _ _ h => h) (Or.inl ⟨by rfl, ?_⟩) (by assumption) ?_
    rotate_left
    · (intro w hSw; (try dsimp only at hSw); first | (go_simp; done) | (go_simp; with_reducible rfl))
    simp only [Act.put, List.setIfInBounds_toArray, List.set_cons_zero, List.set_cons_succ]
    refine wpAnyH_take (i := 2) (oi := { dst := some 9, op := Op.load 87 (Operand.tmp 2), type := 87, pos := "owner.go:72", after := #[], guard := none }) (v := ?_) rfl (by kernel_rfl) (by kernel_rfl) (by kernel_rfl) (fun _ _ _ h => h) (Or.inl ⟨by rfl, ?_⟩) (by assumption) ?_
    rotate_left
    · (intro w hSw; (try dsimp only at hSw); first | (go_simp; done) | (go_simp; with_reducible rfl))
    simp only [Act.put, List.setIfInBounds_toArray, List.set_cons_zero, List.set_cons_succ]
    refine wpAnyH_ready (rs := [3]) (by kernel_rfl) (by simp) ?_
    refine AllReadyH.cons (i := 3) (o := { dst := some 10, op := Op.call { callee := Callee.value (Operand.func 108), args := #[Operand.tmp 7, Operand.tmp 8, Operand.tmp 9], argTypes := #[22, 3, 87] }, type := 4, pos := "owner.go:72", after := #[{ on := 0, ground := Ground.data }, { on := 1, ground := Ground.data }, { on := 2, ground := Ground.data }], guard := none }) rfl (fun K hK => ?_) AllReadyH.nil
    go_simp
    refine (HI.out _ BD.out).mono ?_
    rintro e w1 ⟨rfl, b1⟩
    have B1 := hide (chain BD.out b1)
    clear b1
    go_wp2_with fail
    refine hK.out _ _ ?_ (fun hHeld => ?_)
    · exact ⟨cell_below x1 B1.out, cell_below x2 B1.out, cell_below x3 B1.out, cell_below x4 B1.out⟩
    clear hK K
    refine wpAnyH_take (i := 4) (oi := { dst := some 11, op := Op.unOp UnOp.not 4 (Operand.tmp 10), type := 4, pos := "owner.go:72", after := #[{ on := 3, ground := Ground.data }], guard := none }) (v := ?_) rfl (by kernel_rfl) (by kernel_rfl) (by kernel_rfl) (fun _ _ _ h => h) (Or.inl ⟨by rfl, ?_⟩) (by assumption) ?_
    rotate_left
    · (intro w hSw; (try dsimp only at hSw); first | (go_simp; done) | (go_simp; with_reducible rfl))
    simp only [Act.put, List.setIfInBounds_toArray, List.set_cons_zero, List.set_cons_succ]
    refine wpAnyH_take (i := 5) (oi := { dst := some 12, op := Op.move (Operand.tmp 11), type := 4, pos := "owner.go:72", after := #[{ on := 4, ground := Ground.data }, { on := 3, ground := Ground.chain }], guard := none }) (v := ?_) rfl (by kernel_rfl) (by kernel_rfl) (by kernel_rfl) (fun _ _ _ h => h) (Or.inl ⟨by rfl, ?_⟩) (by assumption) ?_
    rotate_left
    · (intro w hSw; (try dsimp only at hSw); first | (go_simp; done) | (go_simp; with_reducible rfl))
    simp only [Act.put, List.setIfInBounds_toArray, List.set_cons_zero, List.set_cons_succ]
    refine wpAnyH_take (i := 6) (oi := { dst := some 13, op := Op.load 22 (Operand.tmp 1), type := 22, pos := "owner.go:72", after := #[{ on := 5, ground := Ground.guard }], guard := some (5, false) }) (v := undef) rfl (by kernel_rfl) (by kernel_rfl) (by kernel_rfl) (fun _ _ _ h => h) (Or.inr ⟨by rfl, rfl⟩) (by assumption) ?_
    simp only [Act.put, List.setIfInBounds_toArray, List.set_cons_zero, List.set_cons_succ]
    refine wpAnyH_take (i := 7) (oi := { dst := some 14, op := Op.move (Operand.tmp 0), type := 3, pos := "owner.go:72", after := #[{ on := 5, ground := Ground.guard }], guard := some (5, false) }) (v := undef) rfl (by kernel_rfl) (by kernel_rfl) (by kernel_rfl) (fun _ _ _ h => h) (Or.inr ⟨by rfl, rfl⟩) (by assumption) ?_
    simp only [Act.put, List.setIfInBounds_toArray, List.set_cons_zero, List.set_cons_succ]
    refine wpAnyH_take (i := 8) (oi := { dst := some 15, op := Op.load 125 (Operand.tmp 3), type := 125, pos := "owner.go:72", after := #[{ on := 5, ground := Ground.guard }], guard := some (5, false) }) (v := undef) rfl (by kernel_rfl) (by kernel_rfl) (by kernel_rfl) (fun _ _ _ h => h) (Or.inr ⟨by rfl, rfl⟩) (by assumption) ?_
    simp only [Act.put, List.setIfInBounds_toArray, List.set_cons_zero, List.set_cons_succ]
    refine wpAnyH_take (i := 9) (oi := { dst := some 16, op := Op.call { callee := Callee.value (Operand.func 117), args := #[Operand.tmp 13, Operand.tmp 14, Operand.tmp 15], argTypes := #[22, 3, 125] }, type := 3, pos := "owner.go:72", after := #[{ on := 6, ground := Ground.data }, { on := 7, ground := Ground.data }, { on := 8, ground := Ground.data }, { on := 5, ground := Ground.chain }, { on := 5, ground := Ground.guard }], guard := some (5, false) }) (v := undef) rfl (by kernel_rfl) (by kernel_rfl) (by kernel_rfl) (fun _ _ _ h => h) (Or.inr ⟨by rfl, rfl⟩) (by assumption) ?_
    simp only [Act.put, List.setIfInBounds_toArray, List.set_cons_zero, List.set_cons_succ]
    refine wpAnyH_take (i := 10) (oi := { dst := some 17, op := Op.load 3 (Operand.tmp 4), type := 3, pos := "owner.go:72", after := #[{ on := 5, ground := Ground.guard }], guard := some (5, false) }) (v := undef) rfl (by kernel_rfl) (by kernel_rfl) (by kernel_rfl) (fun _ _ _ h => h) (Or.inr ⟨by rfl, rfl⟩) (by assumption) ?_
    simp only [Act.put, List.setIfInBounds_toArray, List.set_cons_zero, List.set_cons_succ]
    refine wpAnyH_take (i := 11) (oi := { dst := some 18, op := Op.binOp BinOp.neq 3 (Operand.tmp 16) (Operand.tmp 17) 3, type := 4, pos := "owner.go:72", after := #[{ on := 9, ground := Ground.data }, { on := 10, ground := Ground.data }, { on := 5, ground := Ground.guard }], guard := some (5, false) }) (v := undef) rfl (by kernel_rfl) (by kernel_rfl) (by kernel_rfl) (fun _ _ _ h => h) (Or.inr ⟨by rfl, rfl⟩) (by assumption) ?_
    simp only [Act.put, List.setIfInBounds_toArray, List.set_cons_zero, List.set_cons_succ]
    refine wpAnyH_take (i := 12) (oi := { dst := some 19, op := Op.pick (Operand.tmp 12) (Operand.const (Value.bool true)) (Operand.tmp 18), type := 4, pos := "owner.go:72", after := #[{ on := 5, ground := Ground.data }, { on := 11, ground := Ground.data }], guard := none }) (v := ?_) rfl (by kernel_rfl) (by kernel_rfl) (by kernel_rfl) (fun _ _ _ h => h) (Or.inl ⟨by rfl, ?_⟩) (by assumption) ?_
    rotate_left
    · (intro w hSw; (try dsimp only at hSw); first | (go_simp; done) | (go_simp; with_reducible rfl))
    simp only [Act.put, List.setIfInBounds_toArray, List.set_cons_zero, List.set_cons_succ]
    refine wpAnyH_take (i := 13) (oi := { dst := some 6, op := Op.assign (Operand.tmp 19), type := 4, pos := "owner.go:72", after := #[{ on := 12, ground := Ground.data }, { on := 9, ground := Ground.chain }, { on := 0, ground := Ground.phase }, { on := 1, ground := Ground.phase }, { on := 2, ground := Ground.phase }, { on := 3, ground := Ground.phase }, { on := 4, ground := Ground.phase }, { on := 5, ground := Ground.phase }, { on := 6, ground := Ground.phase }, { on := 7, ground := Ground.phase }, { on := 8, ground := Ground.phase }, { on := 9, ground := Ground.phase }, { on := 10, ground := Ground.phase }, { on := 11, ground := Ground.phase }, { on := 12, ground := Ground.phase }], guard := none }) (v := ?_) rfl (by kernel_rfl) (by kernel_rfl) (by kernel_rfl) (fun _ _ _ h => h) (Or.inl ⟨by rfl, ?_⟩) (by assumption) ?_
    rotate_left
    · (intro w hSw; (try dsimp only at hSw); first | (go_simp; done) | (go_simp; with_reducible rfl))
    simp only [Act.put, List.setIfInBounds_toArray, List.set_cons_zero, List.set_cons_succ]
    refine wpAnyH_done (by kernel_rfl) ?_ _
    go_wp2_with fail
    go_ret
    exact ⟨ret_bool E.out.symm, B1.out⟩
  | true =>
    have rg : 0 ≤ id ∧ id < (l.length : Int) := by
      apply Classical.byContradiction
      intro t
      rw [ok_out t] at ok; cases ok
    obtain ⟨m, rfl⟩ : ∃ m : Nat, id = (m : Int) := ⟨id.toNat, by omega⟩
    have hm : m < l.length := by omega
    have HF := hide (fun W (hb : Below w.heap.size w W) => owFormOf_any v l m 178 #[.pointer (some ⟨Bo, 0, none⟩), .pointer (some ⟨Bp, 0, none⟩)] entO1W (nmdP l (fm : Int)) W (fun s W' hb' => owOwned1_any s (ownId l (fm : Int)) (namedP l (ownId l (fm : Int))) Bo Bp W' (cell_below (cell_below x5 hb) hb') (cell_below (cell_below x6 hb) hb')) (hv.below hb) hz (hT.below hb) hR hm)
    have E : Hid (goneB l q (fm : Int) (m : Int) = (frmP l (nmdP l (fm : Int)) (m : Int) != (fm : Int))) := by show _ = _; unfold goneB; rw [ok]; rfl
    obtain ⟨p, c, rfl⟩ := nds_formW hv
    rw [ok] at HI
    clear hv hz hT hR x5 x6 ok rg
    generalize frmP l (nmdP l (fm : Int)) (m : Int) = z at *
    have gz : (z != (fm : Int)) = goneB l q (fm : Int) (m : Int) := E.out.symm
    generalize goneB l q (fm : Int) (m : Int) = R at *
    clear E
    go_enter Tryz.func182, Tryz.ntmps182
    go_wp2_with fail
    refine wp_region_held_drew (S := fun X : World => X.cell? ⟨Bl, 0, none⟩ = some (.slice p l.length c) ∧ X.cell? ⟨Bs, 0, none⟩ = some (.func (.func g) #[] #[]) ∧ X.cell? ⟨Bn, 0, none⟩ = some (.func (.func 178) #[] #[.pointer (some ⟨Bo, 0, none⟩), .pointer (some ⟨Bp, 0, none⟩)]) ∧ X.cell? ⟨Bf, 0, none⟩ = some (.int .i64 (fm : Int))) (by kernel_rfl) ?_ (fun hHeld => ?_)
    · exact ⟨x1, x2, x3, x4⟩
    refine wpAnyH_take (i := 0) (oi := { dst := some 7, op := Op.load 22 (Operand.tmp 1), type := 22, pos := "owner.go:72", after := #[], guard := none }) (v := ?_) rfl (by kernel_rfl) (by kernel_rfl) (by kernel_rfl) (fun _ _ _ h => h) (Or.inl ⟨by rfl, ?_⟩) (by assumption) ?_
    rotate_left
    · (intro w hSw; (try dsimp only at hSw); first | (go_simp; done) | (go_simp; with_reducible rfl))
    simp only [Act.put, List.setIfInBounds_toArray, List.set_cons_zero, List.set_cons_succ]
    refine wpAnyH_take (i := 1) (oi := { dst := some 8, op := Op.move (Operand.tmp 0), type := 3, pos := "owner.go:72", after := #[], guard := none }) (v := ?_) rfl (by kernel_rfl) (by kernel_rfl) (by kernel_rfl) (fun _ _ _ h => h) (Or.inl ⟨by rfl, ?_⟩) (by assumption) ?_
    rotate_left
    · (intro w hSw; (try dsimp only at hSw); first | (go_simp; done) | (go_simp; with_reducible rfl))
    simp only [Act.put, List.setIfInBounds_toArray, List.set_cons_zero, List.set_cons_succ]
    refine wpAnyH_take (i := 2) (oi := { dst := some 9, op := Op.load 87 (Operand.tmp 2), type := 87, pos := "owner.go:72", after := #[], guard := none }) (v := ?_) rfl (by kernel_rfl) (by kernel_rfl) (by kernel_rfl) (fun _ _ _ h => h) (Or.inl ⟨by rfl, ?_⟩) (by assumption) ?_
    rotate_left
    · (intro w hSw; (try dsimp only at hSw); first | (go_simp; done) | (go_simp; with_reducible rfl))
    simp only [Act.put, List.setIfInBounds_toArray, List.set_cons_zero, List.set_cons_succ]
    refine wpAnyH_ready (rs := [3]) (by kernel_rfl) (by simp) ?_
    refine AllReadyH.cons (i := 3) (o := { dst := some 10, op := Op.call { callee := Callee.value (Operand.func 108), args := #[Operand.tmp 7, Operand.tmp 8, Operand.tmp 9], argTypes := #[22, 3, 87] }, type := 4, pos := "owner.go:72", after := #[{ on := 0, ground := Ground.data }, { on := 1, ground := Ground.data }, { on := 2, ground := Ground.data }], guard := none }) rfl (fun K hK => ?_) AllReadyH.nil
    go_simp
    refine (HI.out _ BD.out).mono ?_
    rintro e w1 ⟨rfl, b1⟩
    have B1 := hide (chain BD.out b1)
    clear b1
    go_wp2_with fail
    refine hK.out _ _ ?_ (fun hHeld => ?_)
    · exact ⟨cell_below x1 B1.out, cell_below x2 B1.out, cell_below x3 B1.out, cell_below x4 B1.out⟩
    clear hK K
    refine wpAnyH_take (i := 4) (oi := { dst := some 11, op := Op.unOp UnOp.not 4 (Operand.tmp 10), type := 4, pos := "owner.go:72", after := #[{ on := 3, ground := Ground.data }], guard := none }) (v := ?_) rfl (by kernel_rfl) (by kernel_rfl) (by kernel_rfl) (fun _ _ _ h => h) (Or.inl ⟨by rfl, ?_⟩) (by assumption) ?_
    rotate_left
    · (intro w hSw; (try dsimp only at hSw); first | (go_simp; done) | (go_simp; with_reducible rfl))
    simp only [Act.put, List.setIfInBounds_toArray, List.set_cons_zero, List.set_cons_succ]
    refine wpAnyH_take (i := 5) (oi := { dst := some 12, op := Op.move (Operand.tmp 11), type := 4, pos := "owner.go:72", after := #[{ on := 4, ground := Ground.data }, { on := 3, ground := Ground.chain }], guard := none }) (v := ?_) rfl (by kernel_rfl) (by kernel_rfl) (by kernel_rfl) (fun _ _ _ h => h) (Or.inl ⟨by rfl, ?_⟩) (by assumption) ?_
    rotate_left
    · (intro w hSw; (try dsimp only at hSw); first | (go_simp; done) | (go_simp; with_reducible rfl))
    simp only [Act.put, List.setIfInBounds_toArray, List.set_cons_zero, List.set_cons_succ]
    refine wpAnyH_take (i := 6) (oi := { dst := some 13, op := Op.load 22 (Operand.tmp 1), type := 22, pos := "owner.go:72", after := #[{ on := 5, ground := Ground.guard }], guard := some (5, false) }) (v := ?_) rfl (by kernel_rfl) (by kernel_rfl) (by kernel_rfl) (fun _ _ _ h => h) (Or.inl ⟨by rfl, ?_⟩) (by assumption) ?_
    rotate_left
    · (intro w hSw; (try dsimp only at hSw); first | (go_simp; done) | (go_simp; with_reducible rfl))
    simp only [Act.put, List.setIfInBounds_toArray, List.set_cons_zero, List.set_cons_succ]
    refine wpAnyH_take (i := 7) (oi := { dst := some 14, op := Op.move (Operand.tmp 0), type := 3, pos := "owner.go:72", after := #[{ on := 5, ground := Ground.guard }], guard := some (5, false) }) (v := ?_) rfl (by kernel_rfl) (by kernel_rfl) (by kernel_rfl) (fun _ _ _ h => h) (Or.inl ⟨by rfl, ?_⟩) (by assumption) ?_
    rotate_left
    · (intro w hSw; (try dsimp only at hSw); first | (go_simp; done) | (go_simp; with_reducible rfl))
    simp only [Act.put, List.setIfInBounds_toArray, List.set_cons_zero, List.set_cons_succ]
    refine wpAnyH_take (i := 8) (oi := { dst := some 15, op := Op.load 125 (Operand.tmp 3), type := 125, pos := "owner.go:72", after := #[{ on := 5, ground := Ground.guard }], guard := some (5, false) }) (v := ?_) rfl (by kernel_rfl) (by kernel_rfl) (by kernel_rfl) (fun _ _ _ h => h) (Or.inl ⟨by rfl, ?_⟩) (by assumption) ?_
    rotate_left
    · (intro w hSw; (try dsimp only at hSw); first | (go_simp; done) | (go_simp; with_reducible rfl))
    simp only [Act.put, List.setIfInBounds_toArray, List.set_cons_zero, List.set_cons_succ]
    refine wpAnyH_take (i := 10) (oi := { dst := some 17, op := Op.load 3 (Operand.tmp 4), type := 3, pos := "owner.go:72", after := #[{ on := 5, ground := Ground.guard }], guard := some (5, false) }) (v := ?_) rfl (by kernel_rfl) (by kernel_rfl) (by kernel_rfl) (fun _ _ _ h => h) (Or.inl ⟨by rfl, ?_⟩) (by assumption) ?_
    rotate_left
    · (intro w hSw; (try dsimp only at hSw); first | (go_simp; done) | (go_simp; with_reducible rfl))
    simp only [Act.put, List.setIfInBounds_toArray, List.set_cons_zero, List.set_cons_succ]
    refine wpAnyH_ready (rs := [9]) (by kernel_rfl) (by simp) ?_
    refine AllReadyH.cons (i := 9) (o := { dst := some 16, op := Op.call { callee := Callee.value (Operand.func 117), args := #[Operand.tmp 13, Operand.tmp 14, Operand.tmp 15], argTypes := #[22, 3, 125] }, type := 3, pos := "owner.go:72", after := #[{ on := 6, ground := Ground.data }, { on := 7, ground := Ground.data }, { on := 8, ground := Ground.data }, { on := 5, ground := Ground.chain }, { on := 5, ground := Ground.guard }], guard := some (5, false) }) rfl (fun K hK => ?_) AllReadyH.nil
    go_simp
    refine (HF.out _ B1.out).mono ?_
    rintro e w2 ⟨rfl, b2⟩
    have B2 := hide (chain B1.out b2)
    clear b2
    go_wp2_with fail
    refine hK.out _ _ ?_ (fun hHeld => ?_)
    · exact ⟨cell_below x1 B2.out, cell_below x2 B2.out, cell_below x3 B2.out, cell_below x4 B2.out⟩
    clear hK K
    refine wpAnyH_take (i := 11) (oi := { dst := some 18, op := Op.binOp BinOp.neq 3 (Operand.tmp 16) (Operand.tmp 17) 3, type := 4, pos := "owner.go:72", after := #[{ on := 9, ground := Ground.data }, { on := 10, ground := Ground.data }, { on := 5, ground := Ground.guard }], guard := some (5, false) }) (v := ?_) rfl (by kernel_rfl) (by kernel_rfl) (by kernel_rfl) (fun _ _ _ h => h) (Or.inl ⟨by rfl, ?_⟩) (by assumption) ?_
    rotate_left
    · (intro w hSw; (try dsimp only at hSw); first | (go_simp; done) | (go_simp; with_reducible rfl))
    simp only [Act.put, List.setIfInBounds_toArray, List.set_cons_zero, List.set_cons_succ]
    refine wpAnyH_take (i := 12) (oi := { dst := some 19, op := Op.pick (Operand.tmp 12) (Operand.const (Value.bool true)) (Operand.tmp 18), type := 4, pos := "owner.go:72", after := #[{ on := 5, ground := Ground.data }, { on := 11, ground := Ground.data }], guard := none }) (v := ?_) rfl (by kernel_rfl) (by kernel_rfl) (by kernel_rfl) (fun _ _ _ h => h) (Or.inl ⟨by rfl, ?_⟩) (by assumption) ?_
    rotate_left
    · (intro w hSw; (try dsimp only at hSw); first | (go_simp; done) | (go_simp; with_reducible rfl))
    simp only [Act.put, List.setIfInBounds_toArray, List.set_cons_zero, List.set_cons_succ]
    refine wpAnyH_take (i := 13) (oi := { dst := some 6, op := Op.assign (Operand.tmp 19), type := 4, pos := "owner.go:72", after := #[{ on := 12, ground := Ground.data }, { on := 9, ground := Ground.chain }, { on := 0, ground := Ground.phase }, { on := 1, ground := Ground.phase }, { on := 2, ground := Ground.phase }, { on := 3, ground := Ground.phase }, { on := 4, ground := Ground.phase }, { on := 5, ground := Ground.phase }, { on := 6, ground := Ground.phase }, { on := 7, ground := Ground.phase }, { on := 8, ground := Ground.phase }, { on := 9, ground := Ground.phase }, { on := 10, ground := Ground.phase }, { on := 11, ground := Ground.phase }, { on := 12, ground := Ground.phase }], guard := none }) (v := ?_) rfl (by kernel_rfl) (by kernel_rfl) (by kernel_rfl) (fun _ _ _ h => h) (Or.inl ⟨by rfl, ?_⟩) (by assumption) ?_
    rotate_left
    · (intro w hSw; (try dsimp only at hSw); first | (go_simp; done) | (go_simp; with_reducible rfl))
    simp only [Act.put, List.setIfInBounds_toArray, List.set_cons_zero, List.set_cons_succ]
    refine wpAnyH_done (by kernel_rfl) ?_ _
    go_wp2_with fail
    go_ret
    exact ⟨rfl, B2.out⟩
set_option maxHeartbeats 8000000 in
theorem owOwned_any (v : Value) (l : List Nd) (fm : Nat) (g : Nat) (q : Int → Bool) (hs : SuchF g q) (w : World) (hv : NodesV w v l) (hz : DocSz l) (hT : KTabs w) (hR : Right l) (hm : fm < l.length) :
    Calls Tryz.prog 121 #[v, .int .i64 (fm : Int), .func (.func g) #[] #[]] w fun e w' => ∃ v', e = .returned v' ∧ KidsO w.heap.size w' v' (ownedP l q (fm : Int)) ∧ Below w.heap.size w w' := by
  have nz := hz.nds _ (List.getElem_mem hm)
  have rb := right_is.2 hR
  have tr := top_rng hR (k := (fm : Int)) (by omega) (by omega)
  have hN : hasN l (fm : Int) = true := by unfold hasN; rw [decide_eq_true ⟨by omega, by omega⟩, rb]; rfl
  have eT : topQ l (fm : Int) = topP l (fm : Int) := if_pos hN
  have hNt : hasN l (topP l (fm : Int)) = true := by unfold hasN; rw [decide_eq_true tr, rb]; rfl
  have eO : ordL l (topP l (fm : Int)) = orderP l (topP l (fm : Int)) := (if_pos hNt).trans (order_down hR tr).symm
  have HNm := hide (fun W (hb : Below w.heap.size w W) => named_any v l (ownId l (fm : Int)) W (hv.below hb) hz)
  have eNm : namedQ l (ownId l (fm : Int)) = namedP l (ownId l (fm : Int)) := if_pos rb
  rw [eNm] at HNm
  have HTp := hide (fun W (hb : Below w.heap.size w W) => top_any v l (fm : Int) W (hv.below hb) hz)
  rw [eT] at HTp
  have HOr := hide (fun W (hb : Below w.heap.size w W) => order_any v l (topP l (fm : Int)) W (hv.below hb) hz)
  rw [eO] at HOr
  have OL : Hid ((orderP l (topP l (fm : Int))).length ≤ 17592186044416) := by
    show _ ≤ _
    rw [order_down hR tr]
    have := down_few hR tr
    omega
  have HDl := hide (fun (vo : Value) (B : Nat) (W : World) (ko : KidsO B W vo (orderP l (topP l (fm : Int)))) (Bl Bs Bn Bf : Nat) (hp : PredX 182 #[.pointer (some ⟨Bl, 0, none⟩), .pointer (some ⟨Bs, 0, none⟩), .pointer (some ⟨Bn, 0, none⟩), .pointer (some ⟨Bf, 0, none⟩)] (Value.int .i64) (goneB l q (fm : Int)) (vo.ownBlock.toList) W) => deleteFuncI_any B vo (orderP l (topP l (fm : Int))) (goneB l q (fm : Int)) 182 #[.pointer (some ⟨Bl, 0, none⟩), .pointer (some ⟨Bs, 0, none⟩), .pointer (some ⟨Bn, 0, none⟩), .pointer (some ⟨Bf, 0, none⟩)] entO2W W ko hp OL.out)
  have H2 := hide (fun Bl Bs Bn Bf Bo Bp W (hb : Below w.heap.size w W) x1 x2 x3 x4 x5 x6 => owOwned2_any v l fm g q hs Bl Bs Bn Bf Bo Bp W (hv.below hb) hz (hT.below hb) hR x1 x2 x3 x4 x5 x6)
  have EF : Hid ((orderP l (topP l (fm : Int))).filter (fun x => !goneB l q (fm : Int) x) = ownedP l q (fm : Int)) := rfl
  obtain ⟨p, c, rfl⟩ := nds_formW hv
  obtain ⟨b, o, va, pk, nk, ck, rfl, N⟩ := node_ofW hv hm
  have HN := hide (fun W (hb : Below w.heap.size w W) => owFind_any l[fm] va pk nk ck idT W (N.at_.below hb) nz.attrs)
  have EI : Hid (fndS l[fm].attrs idT = ownId l (fm : Int)) := by show _ = _; unfold ownId; rw [Int.toNat_natCast, nd_at hm]
  rw [EI.out, show idT = ⟨#[105, 100]⟩ from rfl] at HN
  obtain ⟨pa, ca, rfl, hxx⟩ := N.at_
  clear hxx
  have hlt : b < w.heap.size := World.block_lt_of_cell? _ _ N.name
  have BW3 : Hid (Below w.heap.size w (((w.alloc (.cells #[.slice (some ⟨b, o, none⟩) l.length c] 22)).alloc (.cells #[.int .i64 (fm : Int)] 3)).alloc (.cells #[.func (.func g) #[] #[]] 87))) := (((Below.refl _ w).alloc (Nat.le_refl _) _).alloc (by simp) _).alloc (by simp; omega) _
  have c0 := cell_below N.name BW3.out
  have c1 := cell_below N.text BW3.out
  have c2 := cell_below N.attrs BW3.out
  have c3 := cell_below N.parent BW3.out
  have c4 := cell_below N.kids BW3.out
  have m0 : (0 : Int) ≤ (fm : Int) := by omega
  have m1 : (fm : Int) < (l.length : Int) := by omega
  have K1 : Hid (Bk (((w.alloc (.cells #[.slice (some ⟨b, o, none⟩) l.length c] 22)).alloc (.cells #[.int .i64 (fm : Int)] 3)).alloc (.cells #[.func (.func g) #[] #[]] 87)) w.heap.size [.slice (some ⟨b, o, none⟩) l.length c] 22) := ((Bk.new w _ _).below ((Below.refl _ _).alloc (Nat.le_refl _) _)).below ((Below.refl _ _).alloc (Nat.le_refl _) _)
  have K2 : Hid (Bk (((w.alloc (.cells #[.slice (some ⟨b, o, none⟩) l.length c] 22)).alloc (.cells #[.int .i64 (fm : Int)] 3)).alloc (.cells #[.func (.func g) #[] #[]] 87)) (w.heap.size + 1) [.int .i64 (fm : Int)] 3) := by
    have := Bk.new (w.alloc (.cells #[.slice (some ⟨b, o, none⟩) l.length c] 22)) [.int .i64 (fm : Int)] 3
    rw [World.size_alloc] at this
    exact this.below ((Below.refl _ _).alloc (Nat.le_refl _) _)
  have K3 : Hid (Bk (((w.alloc (.cells #[.slice (some ⟨b, o, none⟩) l.length c] 22)).alloc (.cells #[.int .i64 (fm : Int)] 3)).alloc (.cells #[.func (.func g) #[] #[]] 87)) (w.heap.size + 1 + 1) [.func (.func g) #[] #[]] 87) := by
    have := Bk.new ((w.alloc (.cells #[.slice (some ⟨b, o, none⟩) l.length c] 22)).alloc (.cells #[.int .i64 (fm : Int)] 3)) [.func (.func g) #[] #[]] 87
    rw [World.size_alloc, World.size_alloc] at this
    exact this
  clear N hv hz hT nz hR hs rb tr hN eT hNt eO eNm EI OL
  generalize ownId l (fm : Int) = own at *
  generalize namedP l own = pl at *
  generalize orderP l (topP l (fm : Int)) = ord at *
  generalize topP l (fm : Int) = T at *
  generalize hasA l[fm] ⟨#[105, 100]⟩ = hai at *
  generalize l[fm].name = n0 at *
  generalize l[fm].text = n1 at *
  generalize l[fm].parent = n3 at *
  generalize l[fm].attrs.length = n5 at *
  go_enter Tryz.func121, Tryz.ntmps121
  go_wp2_with fail
  refine (HN.out _ BW3.out).mono ?_
  rintro e w1 ⟨rfl, b1⟩
  have B1 := hide (chain BW3.out b1)
  replace K1 := hide (K1.out.below b1)
  replace K2 := hide (K2.out.below b1)
  replace K3 := hide (K3.out.below b1)
  clear b1 BW3 HN c0 c1 c2 c3 c4
  have A1 : Hid (Below w1.heap.size w1 (w1.alloc (.cells #[.string own] 9))) := (Below.refl _ w1).alloc (Nat.le_refl _) _
  have B2 := hide (chain B1.out A1.out)
  have K4 := hide (Bk.new w1 [.string own] 9)
  replace K1 := hide (K1.out.below A1.out)
  replace K2 := hide (K2.out.below A1.out)
  replace K3 := hide (K3.out.below A1.out)
  have x1 := K1.out.cell 0 rfl
  have x4 := K4.out.cell 0 rfl
  go_wp2_with fail
  refine (HNm.out _ B2.out).mono ?_
  rintro e w2 ⟨rfl, b2⟩
  have B3 := hide (chain B2.out b2)
  replace K1 := hide (K1.out.below b2)
  replace K2 := hide (K2.out.below b2)
  replace K3 := hide (K3.out.below b2)
  replace K4 := hide (K4.out.below b2)
  clear b2 A1 B2 HNm x1 x4 B1
  have A2 : Hid (Below w2.heap.size w2 ((w2.alloc (.cells #[.int .i64 pl] 3)).alloc (.cells #[.func (.func 178) #[] #[.pointer (some ⟨w1.heap.size, 0, none⟩), .pointer (some ⟨w2.heap.size, 0, none⟩)]] 125))) := ((Below.refl _ w2).alloc (Nat.le_refl _) _).alloc (by simp) _
  have B4 := hide (chain B3.out A2.out)
  have K5 : Hid (Bk ((w2.alloc (.cells #[.int .i64 pl] 3)).alloc (.cells #[.func (.func 178) #[] #[.pointer (some ⟨w1.heap.size, 0, none⟩), .pointer (some ⟨w2.heap.size, 0, none⟩)]] 125)) w2.heap.size [.int .i64 pl] 3) := (Bk.new w2 _ _).below ((Below.refl _ _).alloc (Nat.le_refl _) _)
  have K6 : Hid (Bk ((w2.alloc (.cells #[.int .i64 pl] 3)).alloc (.cells #[.func (.func 178) #[] #[.pointer (some ⟨w1.heap.size, 0, none⟩), .pointer (some ⟨w2.heap.size, 0, none⟩)]] 125)) (w2.heap.size + 1) [.func (.func 178) #[] #[.pointer (some ⟨w1.heap.size, 0, none⟩), .pointer (some ⟨w2.heap.size, 0, none⟩)]] 125) := by
    have := Bk.new (w2.alloc (.cells #[.int .i64 pl] 3)) [.func (.func 178) #[] #[.pointer (some ⟨w1.heap.size, 0, none⟩), .pointer (some ⟨w2.heap.size, 0, none⟩)]] 125
    rw [World.size_alloc] at this
    exact this
  replace K1 := hide (K1.out.below A2.out)
  replace K2 := hide (K2.out.below A2.out)
  replace K3 := hide (K3.out.below A2.out)
  replace K4 := hide (K4.out.below A2.out)
  clear A2 B3
  go_wp2_with fail
  generalize ((w2.alloc (.cells #[.int .i64 pl] 3)).alloc (.cells #[.func (.func 178) #[] #[.pointer (some ⟨w1.heap.size, 0, none⟩), .pointer (some ⟨w2.heap.size, 0, none⟩)]] 125)) = w3 at *
  have DR : Below w3.heap.size w3 w3.drew := ⟨rfl, rfl, rfl, Nat.le_refl _, fun _ _ => rfl⟩
  have B5 := hide (chain B4.out DR)
  have x1 := K1.out.cell 0 rfl
  have x2 := K2.out.cell 0 rfl
  replace K1 := hide (K1.out.below DR)
  replace K2 := hide (K2.out.below DR)
  replace K3 := hide (K3.out.below DR)
  replace K4 := hide (K4.out.below DR)
  replace K5 := hide (K5.out.below DR)
  replace K6 := hide (K6.out.below DR)
  clear DR B4
  refine wp_region_held_drew (S := fun X : World => X.cell? ⟨w.heap.size, 0, none⟩ = some (.slice (some ⟨b, o, none⟩) l.length c) ∧ X.cell? ⟨w.heap.size + 1, 0, none⟩ = some (.int .i64 (fm : Int))) (by kernel_rfl) ?_ (fun hHeld => ?_)
  · exact ⟨x1, x2⟩
  refine wpAnyH_take (i := 0) (oi := { dst := some 24, op := Op.load 22 (Operand.tmp 3), type := 22, pos := "owner.go:70", after := #[], guard := none }) (v := ?_) rfl (by kernel_rfl) (by kernel_rfl) (by kernel_rfl) (fun _ _ _ h => h) (Or.inl ⟨by rfl, ?_⟩) (by assumption) ?_
  rotate_left
  · (intro w hSw; (try dsimp only at hSw); first | (go_simp; done) | (go_simp; with_reducible rfl))
  simp only [Act.put, List.setIfInBounds_toArray, List.set_cons_zero, List.set_cons_succ]
  refine wpAnyH_take (i := 1) (oi := { dst := some 25, op := Op.load 22 (Operand.tmp 3), type := 22, pos := "owner.go:70", after := #[], guard := none }) (v := ?_) rfl (by kernel_rfl) (by kernel_rfl) (by kernel_rfl) (fun _ _ _ h => h) (Or.inl ⟨by rfl, ?_⟩) (by assumption) ?_
  rotate_left
  · (intro w hSw; (try dsimp only at hSw); first | (go_simp; done) | (go_simp; with_reducible rfl))
  simp only [Act.put, List.setIfInBounds_toArray, List.set_cons_zero, List.set_cons_succ]
  refine wpAnyH_take (i := 2) (oi := { dst := some 26, op := Op.load 3 (Operand.tmp 4), type := 3, pos := "owner.go:70", after := #[], guard := none }) (v := ?_) rfl (by kernel_rfl) (by kernel_rfl) (by kernel_rfl) (fun _ _ _ h => h) (Or.inl ⟨by rfl, ?_⟩) (by assumption) ?_
  rotate_left
  · (intro w hSw; (try dsimp only at hSw); first | (go_simp; done) | (go_simp; with_reducible rfl))
  simp only [Act.put, List.setIfInBounds_toArray, List.set_cons_zero, List.set_cons_succ]
  refine wpAnyH_ready (rs := [3]) (by kernel_rfl) (by simp) ?_
  refine AllReadyH.cons (i := 3) (o := { dst := some 27, op := Op.call { callee := Callee.value (Operand.func 180), args := #[Operand.tmp 25, Operand.tmp 26], argTypes := #[22, 3] }, type := 3, pos := "owner.go:70", after := #[{ on := 1, ground := Ground.data }, { on := 2, ground := Ground.data }], guard := none }) rfl (fun K hK => ?_) AllReadyH.nil
  go_simp
  refine (HTp.out _ B5.out).mono ?_
  rintro e w4 ⟨rfl, b4⟩
  have B6 := hide (chain B5.out b4)
  replace K1 := hide (K1.out.below b4)
  replace K2 := hide (K2.out.below b4)
  replace K3 := hide (K3.out.below b4)
  replace K4 := hide (K4.out.below b4)
  replace K5 := hide (K5.out.below b4)
  replace K6 := hide (K6.out.below b4)
  clear b4 B5
  go_wp2_with fail
  refine hK.out _ _ ?_ (fun hHeld => ?_)
  · exact ⟨K1.out.cell 0 rfl, K2.out.cell 0 rfl⟩
  clear hK K
  refine wpAnyH_ready (rs := [4]) (by kernel_rfl) (by simp) ?_
  refine AllReadyH.cons (i := 4) (o := { dst := some 28, op := Op.call { callee := Callee.value (Operand.func 179), args := #[Operand.tmp 24, Operand.tmp 27], argTypes := #[22, 3] }, type := 55, pos := "owner.go:70", after := #[{ on := 0, ground := Ground.data }, { on := 3, ground := Ground.data }, { on := 3, ground := Ground.chain }], guard := none }) rfl (fun K hK => ?_) AllReadyH.nil
  go_simp
  refine (HOr.out _ B6.out).mono ?_
  rintro e w5 ⟨vo, rfl, KO, b5⟩
  replace KO := hide KO
  go_wp2_with fail
  refine hK.out _ _ ?_ (fun hHeld => ?_)
  · exact ⟨(K1.out.below b5).cell 0 rfl, (K2.out.below b5).cell 0 rfl⟩
  clear hK K
  refine wpAnyH_take (i := 5) (oi := { dst := some 11, op := Op.assign (Operand.tmp 28), type := 55, pos := "owner.go:70", after := #[{ on := 4, ground := Ground.data }, { on := 4, ground := Ground.chain }, { on := 0, ground := Ground.phase }, { on := 1, ground := Ground.phase }, { on := 2, ground := Ground.phase }, { on := 3, ground := Ground.phase }, { on := 4, ground := Ground.phase }], guard := none }) (v := ?_) rfl (by kernel_rfl) (by kernel_rfl) (by kernel_rfl) (fun _ _ _ h => h) (Or.inl ⟨by rfl, ?_⟩) (by assumption) ?_
  rotate_left
  · (intro w hSw; (try dsimp only at hSw); first | (go_simp; done) | (go_simp; with_reducible rfl))
  simp only [Act.put, List.setIfInBounds_toArray, List.set_cons_zero, List.set_cons_succ]
  refine wpAnyH_done (by kernel_rfl) ?_ _
  have OB : Hid (∀ k ∈ vo.ownBlock.toList, w4.heap.size ≤ k) := fun k hk => (World.ownsRow.lt KO.out k (opt_mem.1 hk)).1
  have PX : Hid (PredX 182 #[.pointer (some ⟨w.heap.size, 0, none⟩), .pointer (some ⟨w.heap.size + 1 + 1, 0, none⟩), .pointer (some ⟨w2.heap.size + 1, 0, none⟩), .pointer (some ⟨w.heap.size + 1, 0, none⟩)] (Value.int .i64) (goneB l q (fm : Int)) (vo.ownBlock.toList) w5) := fun W x hc => by
    have hb : Below w4.heap.size w4 W := b5.trans (hc.below b5.size OB.out)
    exact H2.out _ _ _ _ w1.heap.size w2.heap.size W (chain B6.out hb) ((K1.out.below hb).cell 0 rfl) ((K3.out.below hb).cell 0 rfl) ((K6.out.below hb).cell 0 rfl) ((K2.out.below hb).cell 0 rfl) ((K4.out.below hb).cell 0 rfl) ((K5.out.below hb).cell 0 rfl) x
  have HD := hide (HDl.out vo w4.heap.size w5 KO.out _ _ _ _ PX.out)
  rw [EF.out] at HD
  have B7 := hide (chain B6.out b5)
  have h56 := B6.out.size
  clear HDl H2 PX K1 K2 K3 K4 K5 K6 EF
  obtain ⟨po, ko, eo, _⟩ := KO.out.ints
  subst eo
  go_wp2_with fail
  refine HD.out.mono ?_
  rintro e w6 ⟨q6, n6, c6, rfl, o6, ch6, _⟩
  have B8 : Hid (Below w.heap.size w w6) := B7.out.trans (ch6.below B7.out.size (fun k hk => Nat.le_trans h56 (OB.out k hk)))
  go_wp2_with fail
  go_ret
  exact ⟨_, rfl, owns_mono o6 h56, B8.out⟩

end Go.Proofs.YtnojgejcmaajmaaGreatDoor
