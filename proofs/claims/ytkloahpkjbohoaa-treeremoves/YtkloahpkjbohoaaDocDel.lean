/- slices.DeleteFunc of a row of numbers, or of attributes, of the call's own: those are left for which a function doesn't hold, in the same block. Conditions: rows of at most 2^47 bytes; the function answers in every world that differs in that block alone. -/
import Derived.Test.YtkloahpkjbohoaaDocS2
import Derived.Test.YtkloahpkjbohoaaDocR7
import Derived.Laws.CopyRow
import Derived.OwnWalk
namespace Go.Proofs.Ytkloahpkjbohoaa
open Go.RowKit

theorem cellsI_set (ks : List Int) (i : Nat) (z : Int) : (cellsI ks).set i (.int .i64 z) = cellsI (ks.set i z) := by unfold cellsI; rw [List.map_set]
theorem cellsA_set : ∀ (ax : List (ByteArray × ByteArray)) (i : Nat) (y : ByteArray × ByteArray), ((cellsA ax).set (i * 2) (.string y.1)).set (i * 2 + 1) (.string y.2) = cellsA (ax.set i y)
  | [], i, y => rfl
  | a :: t, 0, y => rfl
  | a :: t, i + 1, y => by
    have := cellsA_set t i y
    show ((Value.string a.1 :: Value.string a.2 :: cellsA t).set ((i + 1) * 2) _).set ((i + 1) * 2 + 1) _ = Value.string a.1 :: Value.string a.2 :: cellsA (t.set i y)
    rw [show (i + 1) * 2 + 1 = (i * 2 + 1) + 1 + 1 by omega, show (i + 1) * 2 = i * 2 + 1 + 1 by omega, List.set_cons_succ, List.set_cons_succ, List.set_cons_succ, List.set_cons_succ, this]
theorem cellsA_take : ∀ (ax : List (ByteArray × ByteArray)) (i : Nat), (cellsA ax).take (i * 2) = cellsA (ax.take i)
  | [], i => by rw [List.take_nil]; exact List.take_nil
  | a :: t, 0 => rfl
  | a :: t, i + 1 => by
    have := cellsA_take t i
    show (Value.string a.1 :: Value.string a.2 :: cellsA t).take ((i + 1) * 2) = Value.string a.1 :: Value.string a.2 :: cellsA (t.take i)
    rw [show (i + 1) * 2 = i * 2 + 1 + 1 by omega, List.take_succ_cons, List.take_succ_cons, this]
/-- A function value that answers p, in every world that differs from w in blocks of S and new ones. -/
def PredX (g : Nat) (lb : Array Value) {α : Type} (enc : α → Value) (p : α → Bool) (S : List Nat) (w : World) : Prop :=
  ∀ (W : World) (x : α), Chg S w W → Calls Try.prog g (#[enc x] ++ lb) W fun e w' => e = .returned (.bool (p x)) ∧ Below W.heap.size W w'
def encA (x : ByteArray × ByteArray) : Value := .agg #[.string x.1, .string x.2]
theorem PredX.predA {g : Nat} {lb : Array Value} {p : ByteArray × ByteArray → Bool} {S : List Nat} {w : World} (h : PredX g lb encA p S w) : PredA g lb p w := fun W x hb => h W x (Chg.of_below hb).nil
/-- A row, its tail made nought. -/
theorem run_clear_own {P : Program} (w : World) (t e ty : TypeId) (z : Value) (ht : P.underlying t = some (.slice e)) (hv : ∀ w, (zeroValue e).run P w = .ok z w) (size : Nat) (hz : z.cells.size = size) (hs : 0 < size) (h1 : ∀ u ∈ z.cells, u.oneCell' = true)
    {base : Nat} {g n c : Nat} {ys : List Value} (hown : w.ownsRow base e size (.slice (some ⟨g, 0, none⟩) n c) n ys) (i c' : Nat) (hi : i < n) :
    ∃ w' ys', (Builtin.clear_ #[t] ty #[.slice (some ⟨g, i * size, none⟩) (n - i) c']).run P w = .ok (.tuple #[]) w' ∧ w'.ownsRow base e size (.slice (some ⟨g, 0, none⟩) n c) n ys' ∧ ys'.take (i * size) = ys.take (i * size) ∧ Chg [g] w w' := by
  obtain ⟨hl, hown⟩ := hown
  rcases hown with ⟨q, _⟩ | ⟨g', cap, cur, e0, hb, hg, k1, k2, k3, k4⟩
  · cases q
  · cases e0
    have zl : (Builtin.zeroCells z.cells (n - i)).toList.length = (n - i) * size := by rw [Array.length_toList, size_zeroCells, hz]
    have fit : i * size + (n - i) * size = n * size := by rw [← Nat.add_mul]; congr 1; omega
    have fit2 : n * size ≤ c * size := Nat.mul_le_mul_right _ k1
    have hst := run_storeCells_at P g (i * size) e (Builtin.zeroCells z.cells (n - i)).toList 0 cur w hg (by rw [zl, k3]; omega) (fun u hu => by
      rw [Array.mem_toList_iff] at hu
      unfold Builtin.zeroCells at hu
      obtain ⟨k, hk, rfl⟩ := Array.mem_map.1 hu
      have hlt : k % z.cells.size < z.cells.size := Nat.mod_lt _ (by omega)
      rw [getElem!_pos z.cells _ hlt]
      exact h1 _ (Array.getElem_mem _))
    rw [Nat.add_zero] at hst
    have hn : ¬ n - i = 0 := by omega
    refine ⟨w.setRow g (cur.toList.take (i * size) ++ (Builtin.zeroCells z.cells (n - i)).toList ++ cur.toList.drop (i * size + (Builtin.zeroCells z.cells (n - i)).toList.length)).toArray, _, ?_, ⟨?_, .inr ⟨g, c, _, rfl, hb, setRow_heap w g cur _ e _ hg, k1, k2, ?_, rfl⟩⟩, ?_, ?_⟩
    · obtain ⟨m, hm⟩ : ∃ m, n - i = m + 1 := ⟨n - i - 1, by omega⟩
      rw [hm] at hst ⊢
      simp [Builtin.clear_, run_underlying ht, hv, hst]
    · simp only [List.length_take, List.length_append, List.length_drop, Array.length_toList, zl, k3]
      omega
    · simp only [List.size_toArray, List.length_append, List.length_take, List.length_drop, Array.length_toList, zl, k3]
      omega
    · rw [List.take_take, Nat.min_eq_left (by omega), List.append_assoc, List.take_append_of_le_length (by rw [List.length_take, Array.length_toList, k3]; omega), List.take_take, Nat.min_self, ← k4, List.take_take, Nat.min_eq_left (by omega)]
    · exact ⟨rfl, rfl, rfl, by simp [World.setRow], fun k _ hn => setRow_other _ _ _ _ (fun e => hn (by rw [e]; simp))⟩
/-- How far deleting has come. -/
structure Del {α : Type} (p : α → Bool) (xs ys : List α) (i j : Nat) : Prop where
  len : ys.length = xs.length
  lt : i < j
  le : j ≤ xs.length
  ahead : ys.take i = (xs.take j).filter fun x => !p x
  rest : ys.drop j = xs.drop j
theorem Del.start {α : Type} {p : α → Bool} {xs : List α} {k : Nat} (hk : k < xs.length) (h1 : p xs[k] = true) (h2 : ∀ j (hj : j < xs.length), j < k → p xs[j] = false) : Del p xs xs k (k + 1) := by
  refine ⟨rfl, by omega, by omega, ?_, rfl⟩
  rw [List.take_succ_eq_append_getElem hk, List.filter_append]
  have : (xs.take k).filter (fun x => !p x) = xs.take k := by
    rw [List.filter_eq_self]
    intro x hx
    obtain ⟨j, hj, rfl⟩ := List.getElem_of_mem hx
    rw [List.length_take] at hj
    rw [List.getElem_take, h2 j (by omega) (by omega)]; rfl
  rw [this]
  simp [h1]
theorem Del.at {α : Type} {p : α → Bool} {xs ys : List α} {i j : Nat} (h : Del p xs ys i j) (hj : j < xs.length) : ys[j]'(by rw [h.len]; exact hj) = xs[j] := by
  have h1 : ys.drop j = ys[j]'(by rw [h.len]; exact hj) :: ys.drop (j + 1) := List.drop_eq_getElem_cons _
  have h2 : xs.drop j = xs[j] :: xs.drop (j + 1) := List.drop_eq_getElem_cons hj
  have := h.rest
  rw [h1, h2] at this
  exact (List.cons.inj this).1
theorem Del.gone {α : Type} {p : α → Bool} {xs ys : List α} {i j : Nat} (h : Del p xs ys i j) (hj : j < xs.length) (hp : p xs[j] = true) : Del p xs ys i (j + 1) := by
  refine ⟨h.len, by have := h.lt; omega, by omega, ?_, ?_⟩
  · rw [List.take_succ_eq_append_getElem hj, List.filter_append, ← h.ahead]
    simp [hp]
  · have h1 : ys.drop (j + 1) = (ys.drop j).tail := by rw [List.tail_drop]
    have h2 : xs.drop (j + 1) = (xs.drop j).tail := by rw [List.tail_drop]
    rw [h1, h2, h.rest]
theorem Del.keep {α : Type} {p : α → Bool} {xs ys : List α} {i j : Nat} (h : Del p xs ys i j) (hj : j < xs.length) (hp : p xs[j] = false) : Del p xs (ys.set i xs[j]) (i + 1) (j + 1) := by
  have hlt := h.lt
  have hl := h.len
  refine ⟨by rw [List.length_set]; exact h.len, by omega, by omega, ?_, ?_⟩
  · rw [List.take_succ_eq_append_getElem hj, List.filter_append, ← h.ahead, List.take_succ_eq_append_getElem (by rw [List.length_set]; omega), List.take_set, List.getElem_set_self]
    have : (ys.take i).set i xs[j] = ys.take i := List.set_eq_of_length_le (by rw [List.length_take]; omega)
    rw [this]
    simp [hp]
  · rw [List.drop_set_of_lt (by omega)]
    have h1 : ys.drop (j + 1) = (ys.drop j).tail := by rw [List.tail_drop]
    have h2 : xs.drop (j + 1) = (xs.drop j).tail := by rw [List.tail_drop]
    rw [h1, h2, h.rest]
theorem Del.count {α : Type} {p : α → Bool} {xs ys : List α} {i j : Nat} (h : Del p xs ys i j) : ((xs.take j).filter fun x => !p x).length = i := by
  rw [← h.ahead, List.length_take]
  have := h.lt; have := h.le; have := h.len
  omega
theorem idxp_hit {ks : List Int} {p : Int → Bool} {k : Nat} (h : k < ks.length) (hp : p ks[k] = true) (hd : ∀ j (hj : j < ks.length), j < k → p ks[j] = false) : ks.findIdx? p = some k := by
  rw [List.findIdx?_eq_some_iff_getElem]
  exact ⟨h, hp, fun j hj => by rw [hd j (by omega) hj]; decide⟩
theorem idxp_miss {ks : List Int} {p : Int → Bool} (hd : ∀ j (hj : j < ks.length), p ks[j] = false) : ks.findIdx? p = none := by
  rw [List.findIdx?_eq_none_iff]
  intro x hx
  obtain ⟨j, hj, rfl⟩ := List.getElem_of_mem hx
  exact hd j hj
set_option maxHeartbeats 2000000 in
theorem indexFuncI_any (v : Value) (ks : List Int) (p : Int → Bool) (g : Nat) (lb : Array Value) (eg : ∀ args w, (callFunc g args).run Try.prog w = .ok (.enter g args) w) (S : List Nat) (w : World) (hv : IntsV w v ks) (hp : PredX g lb (Value.int .i64) p S w) (hl : ks.length ≤ 17592186044416) :
    Calls Try.prog 76 #[v, .func (.func g) #[] lb] w fun e w' => e = .returned (.int .i64 (findV (ks.findIdx? p))) ∧ Below w.heap.size w w' := by
  obtain ⟨pp, c, rfl, hv⟩ := hv
  have HIT := hide (fun k h h1 h2 => idxp_hit (ks := ks) (p := p) (k := k) h h1 h2)
  have MISS := hide (fun h => idxp_miss (ks := ks) (p := p) h)
  generalize ks.findIdx? p = R at *
  have HP := hide hp
  clear hp
  go_enter Try.func76, Try.ntmps76
  go_wp2_with fail
  go_loopw [8] (fun iv wr => ∃ k : Nat, k ≤ ks.length ∧ iv = .int .i64 k ∧ Hid (∀ j (hj : j < ks.length), j < k → p ks[j] = false) ∧ Hid (Below w.heap.size w wr)) (fun iv _ => ks.length - (intOf iv).toNat)
  case atStart => exact ⟨0, Nat.zero_le _, rfl, fun j _ q => by omega, Below.refl _ _⟩
  case round =>
    rename World => wr
    obtain ⟨k, hk, rfl, hd, BW⟩ := hrel
    by_cases h : k < ks.length
    · have i1 : (k : Int) < (ks.length : Int) := by omega
      rcases hv with hv | ⟨b, o, rfl, hv⟩
      · rw [hv] at h; simp at h
      have c0 := cell_below (hv k h) BW.out
      have HC := hide (HP.out wr ks[k] (Chg.of_below BW.out).nil)
      have HK := hide (HIT.out k h)
      have ND := hide (fun q : p ks[k] = false => (fun j (hj : j < ks.length) (r : j < k + 1) => by
        rcases Nat.lt_or_ge j k with t | t
        · exact hd.out j hj t
        · obtain rfl : j = k := by omega
          exact q : ∀ j (hj : j < ks.length), j < k + 1 → p ks[j] = false))
      clear hv HP HIT MISS
      cases q : p ks[k] with
      | true =>
        have E := hide (HK.out q (fun j hj r => hd.out j hj r))
        rw [q] at HC
        clear HK ND q hd
        generalize ks[k] = x1 at *
        go_wp2_with fail
        refine HC.out.mono ?_
        rintro e w' ⟨rfl, hb'⟩
        go_wp2_with fail
        go_ret
        exact ⟨by rw [E.out]; rfl, chain BW.out hb'⟩
      | false =>
        have E := hide (ND.out q)
        rw [q] at HC
        clear HK ND q hd
        generalize ks[k] = x1 at *
        go_wp2_with fail
        refine HC.out.mono ?_
        rintro e w' ⟨rfl, hb'⟩
        go_wp2_with fail
        go_roundw
        case rel => exact ⟨k + 1, by omega, by go_num, E, chain BW.out hb'⟩
        case measure => simp [intOf]; omega
    · obtain rfl : k = ks.length := by omega
      have E := hide (MISS.out (fun j hj => hd.out j hj hj))
      clear HIT MISS hd hv h
      go_wp2_with fail
      go_ret
      exact ⟨by rw [E.out]; rfl, BW.out⟩

set_option maxHeartbeats 4000000 in
set_option maxRecDepth 100000 in
theorem deleteFuncI_any (base : Nat) (v : Value) (xs : List Int) (p : Int → Bool) (g : Nat) (lb : Array Value) (eg : ∀ args w, (callFunc g args).run Try.prog w = .ok (.enter g args) w) (w : World) (hown : KidsO base w v xs) (hp : PredX g lb (Value.int .i64) p (v.ownBlock.toList) w) (hl : xs.length ≤ 17592186044416) :
    Calls Try.prog 69 #[v, .func (.func g) #[] lb] w fun e w' => ∃ q n c, e = .returned (.slice q n c) ∧ KidsO base w' (.slice q n c) (xs.filter fun x => !p x) ∧ Chg (v.ownBlock.toList) w w' ∧ (Value.slice q n c).ownBlock = v.ownBlock := by
  have HI := hide (indexFuncI_any v xs p g lb eg (v.ownBlock.toList) w hown.ints hp hl)
  have HO := hide hown
  have HP := hide hp
  obtain ⟨pv, nv, cv, ev⟩ : ∃ a n c, v = .slice a n c := by
    rcases hown.2 with ⟨e, _⟩ | ⟨g', cap, cur, e, _⟩
    · exact ⟨_, _, _, e⟩
    · exact ⟨_, _, _, e⟩
  obtain ⟨F, hF⟩ : ∃ F, Hid (xs.findIdx? p = F) := ⟨_, show _ = _ from rfl⟩
  rw [hF.out] at HI
  clear hown hp
  cases F with
  | none =>
    have E : Hid (xs.filter (fun x => !p x) = xs) := by
      show _ = _
      rw [List.filter_eq_self]
      intro x hx
      rw [List.findIdx?_eq_none_iff.1 hF.out x hx]; rfl
    have f1 : findV none = -1 := rfl
    subst ev
    clear hF HP
    go_enter Try.func69, Try.ntmps69
    go_wp2_with fail
    refine HI.out.mono ?_
    rintro e w1 ⟨rfl, b1⟩
    go_wp2_with fail
    go_ret
    exact ⟨pv, nv, cv, rfl, by rw [E.out]; exact owns_kept HO.out (Chg.of_below b1) (fun _ _ q => by cases q), (Chg.of_below b1).nil, rfl⟩
  | some k =>
    obtain ⟨hk, hk1, hk2⟩ := List.findIdx?_eq_some_iff_getElem.1 hF.out
    have D0 : Hid (Del p xs xs k (k + 1)) := Del.start hk hk1 (fun j hj r => by have := hk2 j r; simpa using this)
    obtain ⟨G, cp, ev2, eb, g0, g1, gc, gm⟩ := owns_at HO.out (by omega)
    rw [ev] at ev2
    obtain ⟨rfl, rfl, rfl⟩ : pv = some ⟨G, 0, none⟩ ∧ nv = xs.length ∧ cv = cp := by cases ev2; exact ⟨rfl, rfl, rfl⟩
    subst ev
    have f1 : ((k : Int) == -1) = false := by rw [beq_eq_false_iff_ne]; omega
    have VB : (Value.slice (some ⟨G, 0, none⟩) xs.length cv).ownBlock = some G := rfl
    have f2 : findV (some k) = (k : Int) := rfl
    have gm' : cv ≤ 9223372036854775807 := by unfold maxLen at gm; omega
    clear hF hk1 hk2 ev2 eb gm
    go_enter Try.func69, Try.ntmps69
    go_wp2_with fail
    refine HI.out.mono ?_
    rintro e w1 ⟨rfl, b1⟩
    have O1 := hide (owns_kept HO.out (Chg.of_below b1) (fun _ _ q => by cases q))
    have C1 : Hid (Chg [G] w w1) := (Chg.of_below b1).nil
    clear b1 HI HO
    go_wp2_with fail
    go_loopw [5, 6] (fun iv jv wr => ∃ (i j : Nat) (ys : List Int), iv = .int .i64 i ∧ jv = .int .i64 j ∧ Hid (Del p xs ys i j) ∧ Hid (KidsO base wr (.slice (some ⟨G, 0, none⟩) xs.length cv) ys) ∧ Hid (Chg [G] w wr)) (fun _ jv _ => xs.length - (intOf jv).toNat)
    case atStart => exact ⟨k, k + 1, xs, rfl, by go_num, D0, O1, C1⟩
    case round =>
      rename World => wr
      obtain ⟨i, j, ys, rfl, rfl, DD, OO, CC⟩ := hrel
      clear D0 O1 C1
      have ij := DD.out.lt
      have jl := DD.out.le
      have yl := DD.out.len
      have i0 : (0 : Int) ≤ (i : Int) := by omega
      have j0 : (0 : Int) ≤ (j : Int) := by omega
      have i1 : (i : Int) < (xs.length : Int) := by omega
      have i2 : (i : Int) ≤ (xs.length : Int) := by omega
      have i3 : (xs.length : Int) ≤ (cv : Int) := by omega
      have i4 : (i : Int) ≤ (cv : Int) := by omega
      have Glt : G < wr.heap.size := (OO.out.lt G rfl).2
      by_cases h : j < xs.length
      · have j1 : (j : Int) < (xs.length : Int) := by omega
        have hjy : j < ys.length := by omega
        have ey := DD.out.at h
        have cj := cellsI_at (ks := ys) hjy
        have c0 := owns_cell OO.out VB cj
        rw [ey] at c0
        have f0 := owns_free OO.out VB i
        have e0 := owns_cell OO.out VB (cellsI_at (ks := ys) (i := i) (by omega))
        have GN := hide (DD.out.gone h)
        have KP := hide (DD.out.keep h)
        clear cj ey
        obtain ⟨y, hy⟩ : ∃ y, Hid (xs[j] = y) := ⟨xs[j], show _ = _ from rfl⟩
        rw [hy.out] at c0 GN KP
        have HC := hide (HP.out wr y CC.out)
        cases q : p y with
        | true =>
          have D2 := hide (GN.out q)
          rw [q] at HC
          clear GN KP hy q
          go_wp2_with fail
          refine HC.out.mono ?_
          rintro e w3 ⟨rfl, b3⟩
          go_wp2_with fail
          go_roundw
          case rel => exact ⟨i, j + 1, ys, rfl, by go_num, D2, owns_kept OO.out (Chg.of_below b3) (fun _ _ q => by cases q), CC.out.trans (Chg.of_below b3).nil⟩
          case measure => simp [intOf]; omega
        | false =>
          have D2 := hide (KP.out q)
          rw [q] at HC
          clear GN KP hy q
          go_wp2_with fail
          refine HC.out.mono ?_
          rintro e w3 ⟨rfl, b3⟩
          have O3 := hide (owns_kept OO.out (Chg.of_below b3) (fun _ _ q => by cases q))
          have g0' := cell_below e0 b3
          have h0 := owns_free O3.out VB i
          have C3 := hide (Chg.of_below b3)
          clear c0 e0 f0 b3
          go_wp2_with fail
          go_roundw
          case rel =>
            refine ⟨i + 1, j + 1, ys.set i y, by go_num, by go_num, D2, ?_, (CC.out.trans C3.out.nil).trans (Chg.setB _ _ _ _)⟩
            have r := owns_set O3.out VB i (.int .i64 y)
            rw [cellsI_set] at r
            show World.ownsRow _ _ _ _ _ (ys.set i y).length _
            rw [List.length_set]
            exact r
          case measure => simp [intOf]; omega
      · obtain rfl : j = xs.length := by omega
        obtain ⟨wz, zs, CL, OZ, TZ, CZ⟩ := run_clear_own (P := Try.prog) wr 43 3 0 (.int .i64 0) Try.underlying43 Try.zeroValue3 1 rfl (by omega) (fun u hu => by simp [Value.cells] at hu; subst hu; rfl) (by have := OO.out; unfold KidsO at this; rw [yl] at this; exact this) i (cv - i) (by omega)
        have E : Hid (KidsO base wz (.slice (some ⟨G, 0, none⟩) i cv) (xs.filter fun x => !p x)) := by
          have e1 := DD.out.ahead
          have e2 := DD.out.count
          rw [List.take_length] at e1 e2
          refine ⟨?_, ?_⟩
          · rw [e2]; first | rw [cellsI_len, e2, Nat.mul_one] | rw [cellsA_len, e2]
          · obtain ⟨_, q⟩ := OZ
            rcases q with ⟨q, _⟩ | ⟨g', cap, cur, q, h1, h2, h3, h4, h5, h6⟩
            · cases q
            · cases q
              refine .inr ⟨G, cv, cur, by rw [e2], h1, h2, by rw [e2]; omega, h4, h5, ?_⟩
              rw [e2]
              have t1 : cur.toList.take (i * 1) = zs.take (i * 1) := by rw [← h6, List.take_take, Nat.min_eq_left (Nat.mul_le_mul_right _ (by omega))]
              rw [t1, TZ, ← e1]
              simp [cellsI, List.map_take]
        have cl := CL
        first | rw [Nat.mul_one] at cl | skip
        have CF : Hid (Chg [G] w wz) := CC.out.trans CZ
        clear CL OZ TZ CZ h DD
        go_wp2_with fail
        go_ret
        exact ⟨_, _, _, rfl, E.out, CF.out, rfl⟩

set_option maxHeartbeats 4000000 in
set_option maxRecDepth 100000 in
theorem deleteFuncA_any (base : Nat) (v : Value) (xs : List (ByteArray × ByteArray)) (p : ByteArray × ByteArray → Bool) (g : Nat) (lb : Array Value) (eg : ∀ args w, (callFunc g args).run Try.prog w = .ok (.enter g args) w) (w : World) (hown : AttrsO base w v xs) (hp : PredX g lb encA p (v.ownBlock.toList) w) (hl : xs.length ≤ 4398046511104) :
    Calls Try.prog 59 #[v, .func (.func g) #[] lb] w fun e w' => ∃ q n c, e = .returned (.slice q n c) ∧ AttrsO base w' (.slice q n c) (xs.filter fun x => !p x) ∧ Chg (v.ownBlock.toList) w w' ∧ (Value.slice q n c).ownBlock = v.ownBlock := by
  have HI := hide (indexFuncA_any v xs p g lb eg w hown.attrs hp.predA hl)
  have HO := hide hown
  have HP := hide hp
  obtain ⟨pv, nv, cv, ev⟩ : ∃ a n c, v = .slice a n c := by
    rcases hown.2 with ⟨e, _⟩ | ⟨g', cap, cur, e, _⟩
    · exact ⟨_, _, _, e⟩
    · exact ⟨_, _, _, e⟩
  obtain ⟨F, hF⟩ : ∃ F, Hid (xs.findIdx? p = F) := ⟨_, show _ = _ from rfl⟩
  rw [hF.out] at HI
  clear hown hp
  cases F with
  | none =>
    have E : Hid (xs.filter (fun x => !p x) = xs) := by
      show _ = _
      rw [List.filter_eq_self]
      intro x hx
      rw [List.findIdx?_eq_none_iff.1 hF.out x hx]; rfl
    have f1 : findV none = -1 := rfl
    subst ev
    clear hF HP
    go_enter Try.func59, Try.ntmps59
    go_wp2_with fail
    refine HI.out.mono ?_
    rintro e w1 ⟨rfl, b1⟩
    go_wp2_with fail
    go_ret
    exact ⟨pv, nv, cv, rfl, by rw [E.out]; exact owns_kept HO.out (Chg.of_below b1) (fun _ _ q => by cases q), (Chg.of_below b1).nil, rfl⟩
  | some k =>
    obtain ⟨hk, hk1, hk2⟩ := List.findIdx?_eq_some_iff_getElem.1 hF.out
    have D0 : Hid (Del p xs xs k (k + 1)) := Del.start hk hk1 (fun j hj r => by have := hk2 j r; simpa using this)
    obtain ⟨G, cp, ev2, eb, g0, g1, gc, gm⟩ := owns_at HO.out (by omega)
    rw [ev] at ev2
    obtain ⟨rfl, rfl, rfl⟩ : pv = some ⟨G, 0, none⟩ ∧ nv = xs.length ∧ cv = cp := by cases ev2; exact ⟨rfl, rfl, rfl⟩
    subst ev
    have f1 : ((k : Int) == -1) = false := by rw [beq_eq_false_iff_ne]; omega
    have VB : (Value.slice (some ⟨G, 0, none⟩) xs.length cv).ownBlock = some G := rfl
    have f2 : findV (some k) = (k : Int) := rfl
    have gm' : cv ≤ 9223372036854775807 := by unfold maxLen at gm; omega
    clear hF hk1 hk2 ev2 eb gm
    go_enter Try.func59, Try.ntmps59
    go_wp2_with fail
    refine HI.out.mono ?_
    rintro e w1 ⟨rfl, b1⟩
    have O1 := hide (owns_kept HO.out (Chg.of_below b1) (fun _ _ q => by cases q))
    have C1 : Hid (Chg [G] w w1) := (Chg.of_below b1).nil
    clear b1 HI HO
    go_wp2_with fail
    go_loopw [5, 6] (fun iv jv wr => ∃ (i j : Nat) (ys : List (ByteArray × ByteArray)), iv = .int .i64 i ∧ jv = .int .i64 j ∧ Hid (Del p xs ys i j) ∧ Hid (AttrsO base wr (.slice (some ⟨G, 0, none⟩) xs.length cv) ys) ∧ Hid (Chg [G] w wr)) (fun _ jv _ => xs.length - (intOf jv).toNat)
    case atStart => exact ⟨k, k + 1, xs, rfl, by go_num, D0, O1, C1⟩
    case round =>
      rename World => wr
      obtain ⟨i, j, ys, rfl, rfl, DD, OO, CC⟩ := hrel
      clear D0 O1 C1
      have ij := DD.out.lt
      have jl := DD.out.le
      have yl := DD.out.len
      have i0 : (0 : Int) ≤ (i : Int) := by omega
      have j0 : (0 : Int) ≤ (j : Int) := by omega
      have i1 : (i : Int) < (xs.length : Int) := by omega
      have i2 : (i : Int) ≤ (xs.length : Int) := by omega
      have i3 : (xs.length : Int) ≤ (cv : Int) := by omega
      have i4 : (i : Int) ≤ (cv : Int) := by omega
      have Glt : G < wr.heap.size := (OO.out.lt G rfl).2
      by_cases h : j < xs.length
      · have j1 : (j : Int) < (xs.length : Int) := by omega
        have hjy : j < ys.length := by omega
        have ey := DD.out.at h
        have cj := cellsA_at (ax := ys) hjy
        have c0 := owns_cell OO.out VB cj.1
        have c1 := owns_cell OO.out VB cj.2
        rw [ey] at c0 c1
        have f0 := owns_free OO.out VB (i * 2)
        have f01 := owns_free OO.out VB (i * 2 + 1)
        have di := cellsA_at (ax := ys) (i := i) (by omega)
        have e0 := owns_cell OO.out VB di.1
        have e1 := owns_cell OO.out VB di.2
        have GN := hide (DD.out.gone h)
        have KP := hide (DD.out.keep h)
        have nG : G ≠ wr.heap.size := by omega
        clear cj di ey
        obtain ⟨y, hy⟩ : ∃ y, Hid (xs[j] = y) := ⟨xs[j], show _ = _ from rfl⟩
        rw [hy.out] at c0 c1 GN KP
        have HC := hide (fun W (hc : Chg [G] w W) => HP.out W y hc)
        unfold encA at HC
        cases q : p y with
        | true =>
          have D2 := hide (GN.out q)
          rw [q] at HC
          clear GN KP hy q
          go_wp2_with fail
          generalize hw2 : wr.alloc (.cells #[.string y.1, .string y.2] 48) = w2
          have N2 : Hid (NB w2 wr.heap.size [.string y.1, .string y.2] 48) := by rw [← hw2]; exact NB.new wr _ _
          have C2 : Hid (Chg [] wr w2) := by rw [← hw2]; exact Chg.alloc _ _
          have n0 := N2.out.cell 0 rfl
          have n1 := N2.out.cell 1 rfl
          clear hw2
          go_wp2_with fail
          refine (HC.out _ (CC.out.trans C2.out.nil)).mono ?_
          rintro e w3 ⟨rfl, b3⟩
          have C3 : Hid (Chg [] wr w3) := C2.out.trans (Chg.of_below b3)
          go_wp2_with fail
          go_roundw
          case rel => exact ⟨i, j + 1, ys, rfl, by go_num, D2, owns_kept OO.out C3.out (fun _ _ q => by cases q), CC.out.trans C3.out.nil⟩
          case measure => simp [intOf]; omega
        | false =>
          have D2 := hide (KP.out q)
          rw [q] at HC
          clear GN KP hy q
          go_wp2_with fail
          generalize hw2 : wr.alloc (.cells #[.string y.1, .string y.2] 48) = w2
          have N2 : Hid (NB w2 wr.heap.size [.string y.1, .string y.2] 48) := by rw [← hw2]; exact NB.new wr _ _
          have C2 : Hid (Chg [] wr w2) := by rw [← hw2]; exact Chg.alloc _ _
          have n0 := N2.out.cell 0 rfl
          have n1 := N2.out.cell 1 rfl
          clear hw2
          go_wp2_with fail
          refine (HC.out _ (CC.out.trans C2.out.nil)).mono ?_
          rintro e w3 ⟨rfl, b3⟩
          have C3 : Hid (Chg [] wr w3) := C2.out.trans (Chg.of_below b3)
          have O3 := hide (owns_kept OO.out C3.out (fun _ _ q => by cases q))
          have m0 := cell_below n0 b3
          have m1 := cell_below n1 b3
          have g0' := C3.out.cell e0 (by simp)
          have g1' := C3.out.cell e1 (by simp)
          have h0 := owns_free O3.out VB (i * 2)
          have h01 := owns_free O3.out VB (i * 2 + 1)
          clear n0 n1 c0 c1 e0 e1 f0 f01 b3
          go_wp2_with fail
          go_roundw
          case rel =>
            refine ⟨i + 1, j + 1, ys.set i y, by go_num, by go_num, D2, ?_, (CC.out.trans C3.out.nil).trans ((Chg.setB _ _ _ _).trans (Chg.setB _ _ _ _))⟩
            have r := owns_set (owns_set O3.out VB (i * 2) (.string y.1)) VB (i * 2 + 1) (.string y.2)
            rw [cellsA_set] at r
            show World.ownsRow _ _ _ _ _ (ys.set i y).length _
            rw [List.length_set]
            exact r
          case measure => simp [intOf]; omega
      · obtain rfl : j = xs.length := by omega
        obtain ⟨wz, zs, CL, OZ, TZ, CZ⟩ := run_clear_own (P := Try.prog) wr 42 48 0 (.agg #[.string ⟨#[]⟩, .string ⟨#[]⟩]) Try.underlying42 Try.zeroValue48 2 rfl (by omega) (fun u hu => by simp [Value.cells] at hu; rcases hu with rfl | rfl <;> rfl) (by have := OO.out; unfold AttrsO at this; rw [yl] at this; exact this) i (cv - i) (by omega)
        have E : Hid (AttrsO base wz (.slice (some ⟨G, 0, none⟩) i cv) (xs.filter fun x => !p x)) := by
          have e1 := DD.out.ahead
          have e2 := DD.out.count
          rw [List.take_length] at e1 e2
          refine ⟨?_, ?_⟩
          · rw [e2]; first | rw [cellsI_len, e2, Nat.mul_one] | rw [cellsA_len, e2]
          · obtain ⟨_, q⟩ := OZ
            rcases q with ⟨q, _⟩ | ⟨g', cap, cur, q, h1, h2, h3, h4, h5, h6⟩
            · cases q
            · cases q
              refine .inr ⟨G, cv, cur, by rw [e2], h1, h2, by rw [e2]; omega, h4, h5, ?_⟩
              rw [e2]
              have t1 : cur.toList.take (i * 2) = zs.take (i * 2) := by rw [← h6, List.take_take, Nat.min_eq_left (Nat.mul_le_mul_right _ (by omega))]
              rw [t1, TZ, ← e1]
              exact cellsA_take ys i
        have cl := CL
        first | rw [Nat.mul_one] at cl | skip
        have CF : Hid (Chg [G] w wz) := CC.out.trans CZ
        clear CL OZ TZ CZ h DD
        go_wp2_with fail
        go_ret
        exact ⟨_, _, _, rfl, E.out, CF.out, rfl⟩

end Go.Proofs.Ytkloahpkjbohoaa
