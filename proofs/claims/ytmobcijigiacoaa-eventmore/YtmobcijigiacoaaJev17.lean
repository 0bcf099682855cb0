/- The program's way to an event's calls. Rows of numbers, each in a row of the call's own, behind a row of pairs of the call's own. The program's listening of layer 23. -/
import Derived.Test.YtmobcijigiacoaaJev18
import Derived.Deep.RegionHeld3
import Derived.Deep.MidRow

namespace Go.Proofs.Ytmobcijigiacoaa
open Go.RowKit
/-- The nodes of a path with their phases. -/
def stopsP (p : List Int) (b : Bool) : List (Int × Int) := p.dropLast.map (fun x => (x, 1)) ++ ((p.getLastD 0, 2) :: (if b = true then p.dropLast.reverse.map (fun x => (x, 3)) else []))
/-- The places of the listeners at a node. -/
def idxF (n : Int) (k : ByteArray) (c : Bool) : Nat → List Ls → List Int
  | _, [] => []
  | i, x :: xs => (if lsB n k c x = true then [(i : Int)] else []) ++ idxF n k c (i + 1) xs
def putC (n ph : Int) (xs : List Int) : List Cl := xs.map fun j => (j, n, ph)
theorem at_idx (n ph : Int) (k : ByteArray) (c : Bool) : ∀ (xs : List Ls) (i : Nat), atF n ph k c i xs = putC n ph (idxF n k c i xs)
  | [], _ => rfl
  | x :: xs, i => by
    show _ ++ atF n ph k c (i + 1) xs = putC n ph (_ ++ idxF n k c (i + 1) xs)
    rw [at_idx n ph k c xs (i + 1)]
    unfold putC
    rw [List.map_append]
    congr 1
    split <;> rfl
theorem idx_app (n : Int) (k : ByteArray) (c : Bool) : ∀ (xs ys : List Ls) (i : Nat), idxF n k c i (xs ++ ys) = idxF n k c i xs ++ idxF n k c (i + xs.length) ys
  | [], ys, i => by simp [idxF]
  | x :: xs, ys, i => by
    show _ ++ idxF n k c (i + 1) (xs ++ ys) = (_ ++ idxF n k c (i + 1) xs) ++ _
    rw [idx_app n k c xs ys (i + 1), List.append_assoc, List.length_cons, show i + 1 + xs.length = i + (xs.length + 1) by omega]
theorem idx_len (n : Int) (k : ByteArray) (c : Bool) : ∀ (xs : List Ls) (i : Nat), (idxF n k c i xs).length ≤ xs.length
  | [], _ => Nat.le_refl _
  | x :: xs, i => by
    show (_ ++ idxF n k c (i + 1) xs).length ≤ _
    rw [List.length_append, List.length_cons]
    have := idx_len n k c xs (i + 1)
    split <;> simp <;> omega
/-- What one stop calls. -/
def stepC (all : List Ls) (k : ByteArray) (x : Int × Int) : List Cl :=
  (if x.2 = 3 then [] else putC x.1 x.2 (idxF x.1 k true 0 all)) ++ (if x.2 = 1 then [] else putC x.1 x.2 (idxF x.1 k false 0 all))
theorem calls_stops {l : List Nd} {all : List Ls} {t : Int} {k : ByteArray} {b : Bool} (h : pathP l t ≠ []) : callsP l all t k b = (stopsP (pathP l t) b).flatMap (stepC all k) := by
  have hh : hasN l t = true := by
    cases q : hasN l t with
    | false => exact absurd (path_none q) h
    | true => rfl
  have el : (pathP l t).getLastD 0 = t := by rw [path_drop hh]; simp
  have e1 : ∀ x, stepC all k (x, 1) = atP all k (x, 1, true) := fun x => (List.append_nil _).trans (at_idx _ _ _ _ _ _).symm
  have e3 : ∀ x, stepC all k (x, 3) = atP all k (x, 3, false) := fun x => (List.nil_append _).trans (at_idx _ _ _ _ _ _).symm
  have e2 : stepC all k (t, 2) = atP all k (t, 2, true) ++ atP all k (t, 2, false) := by
    unfold atP
    rw [at_idx, at_idx]
    rfl
  unfold callsP grpE stopsP
  rw [if_neg h, el, List.flatMap_append, List.flatMap_append, List.flatMap_append, List.flatMap_cons (f := stepC all k), List.flatMap_map, List.flatMap_map, e2]
  congr 1
  · congr 1
    funext x
    exact (e1 x).symm
  · congr 1
    · simp
    · cases b with
      | false => rfl
      | true =>
        rw [if_pos rfl, if_pos rfl, List.flatMap_map, List.flatMap_map]
        congr 1
        funext x
        exact (e3 x).symm
/-- Node by node: with Capture, then without. -/
def rowsG (k : ByteArray) (N : Nat) (all : List Ls) : List (List Int) := (List.range (N * 2)).map fun m => idxF ((m / 2 : Nat) : Int) k (m % 2 == 0) 0 all
theorem rowsG_len {k : ByteArray} {N : Nat} {all : List Ls} : (rowsG k N all).length = N * 2 := by unfold rowsG; rw [List.length_map, List.length_range]
theorem rowsG_at {k : ByteArray} {N : Nat} {all : List Ls} {m : Nat} (h : m < (rowsG k N all).length) : (rowsG k N all)[m] = idxF ((m / 2 : Nat) : Int) k (m % 2 == 0) 0 all := by
  have e : ∀ (h2 : m < ((List.range (N * 2)).map fun m => idxF ((m / 2 : Nat) : Int) k (m % 2 == 0) 0 all).length), ((List.range (N * 2)).map fun m => idxF ((m / 2 : Nat) : Int) k (m % 2 == 0) 0 all)[m] = idxF ((m / 2 : Nat) : Int) k (m % 2 == 0) 0 all := fun h2 => by
    rw [List.getElem_map, List.getElem_range]
  exact e h
/-- The place of a listener's row. -/
def plcB (n : Nat) (c : Bool) : Nat := n * 2 + (if c = true then 0 else 1)
theorem plc_at {k : ByteArray} {N : Nat} {all : List Ls} {n : Nat} {c : Bool} (hn : n < N) : ∃ h : plcB n c < (rowsG k N all).length, (rowsG k N all)[plcB n c] = idxF (n : Int) k c 0 all := by
  have h : plcB n c < N * 2 := by unfold plcB; split <;> omega
  refine ⟨by rw [rowsG_len]; exact h, ?_⟩
  rw [rowsG_at]
  unfold plcB
  cases c with
  | true => rw [if_pos rfl, show (n * 2 + 0) / 2 = n by omega, show (n * 2 + 0) % 2 = 0 by omega]; rfl
  | false => rw [if_neg (by decide), show (n * 2 + 1) / 2 = n by omega, show (n * 2 + 1) % 2 = 1 by omega]; rfl
theorem idx_one {n : Int} {k : ByteArray} {c : Bool} {all : List Ls} {x : Ls} : idxF n k c 0 (all ++ [x]) = idxF n k c 0 all ++ (if lsB n k c x = true then [(all.length : Int)] else []) := by
  rw [idx_app, Nat.zero_add]
  congr 1
  show _ ++ [] = _
  rw [List.append_nil]
/-- One more listener: into its node's row, if it is one of those asked for. -/
theorem rows_skip {k : ByteArray} {N : Nat} {all : List Ls} {x : Ls} (h : ¬ (x.typ = k ∧ 0 ≤ x.node ∧ x.node < (N : Int))) : rowsG k N (all ++ [x]) = rowsG k N all := by
  unfold rowsG
  refine List.map_congr_left fun m hm => ?_
  rw [idx_one]
  have hm' := List.mem_range.1 hm
  rw [if_neg, List.append_nil]
  intro q
  unfold lsB at q
  rw [Bool.and_eq_true, Bool.and_eq_true, decide_eq_true_eq, decide_eq_true_eq] at q
  exact h ⟨q.2.1, by omega, by omega⟩
theorem rows_put {k : ByteArray} {N n : Nat} {all : List Ls} {x : Ls} (ht : x.typ = k) (hx : x.node = (n : Int)) (hn : n < N) :
    rowsG k N (all ++ [x]) = (rowsG k N all).set (plcB n x.cap) (idxF (n : Int) k x.cap 0 all ++ [(all.length : Int)]) := by
  have hp : plcB n x.cap < N * 2 := by unfold plcB; split <;> omega
  refine List.ext_getElem (by rw [List.length_set, rowsG_len, rowsG_len]) fun m h1 h2 => ?_
  rw [rowsG_at, idx_one, List.getElem_set]
  by_cases e : plcB n x.cap = m
  · rw [if_pos e]
    have e1 : m / 2 = n ∧ (m % 2 == 0) = x.cap := by
      subst e
      unfold plcB
      cases x.cap with
      | true => exact ⟨by rw [if_pos rfl]; omega, by rw [if_pos rfl, show (n * 2 + 0) % 2 = 0 by omega]; rfl⟩
      | false => exact ⟨by rw [if_neg (by decide)]; omega, by rw [if_neg (by decide), show (n * 2 + 1) % 2 = 1 by omega]; rfl⟩
    rw [e1.1, e1.2, if_pos]
    unfold lsB
    rw [hx, ht, decide_eq_true rfl, decide_eq_true rfl]
    simp
  · rw [if_neg e, rowsG_at, if_neg, List.append_nil]
    intro q
    unfold lsB at q
    rw [Bool.and_eq_true, Bool.and_eq_true, decide_eq_true_eq, beq_iff_eq] at q
    apply e
    unfold plcB
    rw [q.2.2]
    have hq := q.1
    rw [hx] at hq
    by_cases z : m % 2 = 0
    · rw [if_pos (by rw [z]; rfl)]; omega
    · rw [if_neg (by rw [beq_iff_eq]; exact z)]; omega
theorem stops_len {p : List Int} {b : Bool} : (stopsP p b).length ≤ 2 * p.length + 1 := by
  unfold stopsP
  rw [List.length_append, List.length_cons, List.length_map, List.length_dropLast]
  split
  · rw [List.length_map, List.length_reverse, List.length_dropLast]; omega
  · simp; omega
theorem stops_mem {p : List Int} {b : Bool} {x : Int × Int} (h : x ∈ stopsP p b) (hp : p ≠ []) : x.1 ∈ p ∧ 1 ≤ x.2 ∧ x.2 ≤ 3 := by
  unfold stopsP at h
  rcases List.mem_append.1 h with h | h
  · obtain ⟨y, hy, rfl⟩ := List.mem_map.1 h
    exact ⟨List.dropLast_sublist _ |>.subset hy, by show (1 : Int) ≤ 1; omega, by show (1 : Int) ≤ 3; omega⟩
  · rcases List.mem_cons.1 h with rfl | h
    · refine ⟨?_, by show (1 : Int) ≤ 2; omega, by show (2 : Int) ≤ 3; omega⟩
      show p.getLastD 0 ∈ p
      rw [List.getLastD_eq_getLast?, List.getLast?_eq_some_getLast hp]
      exact List.getLast_mem hp
    · split at h
      · obtain ⟨y, hy, rfl⟩ := List.mem_map.1 h
        exact ⟨List.dropLast_sublist _ |>.subset (List.mem_reverse.1 hy), by show (1 : Int) ≤ 3; omega, by show (3 : Int) ≤ 3; omega⟩
      · cases h
theorem calls_few {all : List Ls} {k : ByteArray} {x : Int × Int} : (stepC all k x).length ≤ 2 * all.length := by
  unfold stepC
  rw [List.length_append]
  have a := idx_len x.1 k true all 0
  have b := idx_len x.1 k false all 0
  split <;> split <;> simp [putC] <;> omega
theorem flat_few {α β : Type} {f : α → List β} {c : Nat} : ∀ {xs : List α}, (∀ x ∈ xs, (f x).length ≤ c) → (xs.flatMap f).length ≤ xs.length * c
  | [], _ => by simp
  | x :: xs, h => by
    rw [List.flatMap_cons, List.length_append, List.length_cons, Nat.succ_mul]
    have a := h x List.mem_cons_self
    have b := flat_few (xs := xs) (fun y hy => h y (List.mem_cons_of_mem _ hy))
    omega
end Go.Proofs.Ytmobcijigiacoaa

namespace Go.Proofs.Ytmobcijigiacoaa
open Go.RowKit
set_option maxRecDepth 100000
theorem hAt_at {V : List Value} {i : Nat} (h : i < V.length) : V[i]? = some (hAt V i) := by unfold hAt; rw [List.getD_eq_getElem?_getD, List.getElem?_eq_getElem h]; rfl
theorem hAt_set {V : List Value} {x : Value} {p i : Nat} (h : p < V.length) : hAt (V.set p x) i = if i = p then x else hAt V i := by
  unfold hAt
  rw [List.getD_eq_getElem?_getD, List.getD_eq_getElem?_getD, List.getElem?_set]
  by_cases e : p = i
  · subst e
    rw [if_pos rfl, if_pos h, if_pos rfl]; rfl
  · rw [if_neg e, if_neg (fun t => e t.symm)]
theorem rowsh_far {B B' : Nat} {w : World} {v u : Value} {ks : List Int} {n : Nat} {xs : List Value} (h : KidsO B w v ks) (hu : w.ownsRow B' 57 2 u n xs) : ∀ j, v.ownBlock = some j → ¬ u.ownBlock = some j := fun j hj q => by
  rcases h.2 with ⟨rfl, _⟩ | ⟨g, cap, cur, rfl, _, hg, _⟩
  · cases hj
  · rcases hu.2 with ⟨rfl, _⟩ | ⟨g', cap', cur', rfl, _, hg', _⟩
    · cases q
    · obtain rfl : g = j := Option.some.inj hj
      obtain rfl : g' = g := Option.some.inj q
      rw [hg] at hg'
      cases hg'
theorem RowsH.below {B : Nat} {w w' : World} {v : Value} {G : List (List Int)} {V : List Value} {n : Nat} (h : RowsH B w v G V n) (hb : Below w.heap.size w w') : RowsH B w' v G V n :=
  ⟨h.len, owns_below h.row hb, fun i hi => owns_below (h.at_ i hi) hb, h.far⟩
/-- One of them, with one more number. -/
theorem RowsH.put {B : Nat} {w w1 : World} {v : Value} {G : List (List Int)} {V : List Value} {n : Nat} (h : RowsH B w v G V n) {p : Nat} (hp : p < G.length) {u : Value} {ks : List Int} (hc : Chg (hAt V p).ownBlock.toList w w1) (hk : KidsO B w1 u ks) (hl : u.ownBlock = (hAt V p).ownBlock ∨ ∀ b, u.ownBlock = some b → w.heap.size ≤ b) {g : Nat} (hg : v.ownBlock = some g) :
    RowsH B (w1.setCell ⟨g, p, none⟩ u) v (G.set p ks) (V.set p u) n := by
  have hpv : p < V.length := by rw [h.len]; exact hp
  have r1 : w1.ownsRow B 57 2 v n V := owns_kept h.row hc (fun k hk' q => rowsh_far (h.at_ p hp) h.row k (opt_mem.1 q) hk')
  have r2 := owns_set r1 hg p u
  refine ⟨by rw [List.length_set, List.length_set]; exact h.len, r2, fun i hi => ?_, fun i j b hi hj h1 h2 => ?_⟩
  · rw [List.length_set] at hi
    rw [hAt_set hpv]
    by_cases e : i = p
    · subst e
      rw [if_pos rfl, List.getElem_set_self]
      exact owns_kept hk (Chg.setB w1 g i u) (fun k hk' q => rowsh_far hk r1 k hk' (by rw [List.mem_singleton] at q; rw [q]; exact hg))
    · rw [if_neg e, List.getElem_set_ne (fun t => e t.symm)]
      have k1 : KidsO B w1 (hAt V i) G[i] := owns_kept (h.at_ i hi) hc (fun k hk' q => e (h.far i p k hi hp hk' (opt_mem.1 q)))
      exact owns_kept k1 (Chg.setB w1 g p u) (fun k hk' q => rowsh_far k1 r1 k hk' (by rw [List.mem_singleton] at q; rw [q]; exact hg))
  · rw [List.length_set] at hi hj
    rw [hAt_set hpv] at h1 h2
    have A : ∀ j b, j < G.length → ¬ j = p → u.ownBlock = some b → (hAt V j).ownBlock = some b → False := fun j b hj e a1 a2 => by
      rcases hl with t | t
      · rw [t] at a1; exact e (h.far j p b hj hp a2 a1)
      · have := t b a1
        have := (h.lt hj a2).2
        omega
    by_cases e1 : i = p
    · by_cases e2 : j = p
      · rw [e1, e2]
      · rw [if_pos e1] at h1
        rw [if_neg e2] at h2
        exact (A j b hj e2 h1 h2).elim
    · by_cases e2 : j = p
      · rw [if_neg e1] at h1
        rw [if_pos e2] at h2
        exact (A i b hi e1 h2 h1).elim
      · rw [if_neg e1] at h1
        rw [if_neg e2] at h2
        exact h.far i j b hi hj h1 h2
theorem info_heard : (Try.prog.info? 57).map (fun i => (i.zero, i.size, i.bytes)) = some (some (.agg #[.slice none 0 0, .slice none 0 0]), 2, 48) := by kernel_rfl
theorem made_nil (n i : Nat) : hAt (madeCells (Value.agg #[.slice none 0 0, .slice none 0 0]).cells (n * 2)).toList i = .slice none 0 0 := by
  unfold hAt madeCells
  rw [List.getD_eq_getElem?_getD, Array.toList_map, List.getElem?_map]
  cases h : (Array.range (n * 2)).toList[i]? with
  | none => rfl
  | some k =>
    show (#[Value.slice none 0 0, Value.slice none 0 0][k % 2]!) = _
    rcases (show k % 2 = 0 ∨ k % 2 = 1 by omega) with e | e <;> rw [e] <;> rfl
theorem make_heard (n : Nat) (hn : n ≤ 400) (w : World) : ∃ w', (Instr.makeSlice 50 (.int .i64 (n : Int)) (.int .i64 (n : Int))).run Try.prog w = .ok (.slice (some ⟨w.heap.size, 0, none⟩) n n) w' ∧ Below w.heap.size w w' ∧
    ∀ (k : ByteArray), RowsH w.heap.size w' (.slice (some ⟨w.heap.size, 0, none⟩) n n) (rowsG k n []) (madeCells (Value.agg #[.slice none 0 0, .slice none 0 0]).cells (n * 2)).toList n := by
  obtain ⟨i, hi, hz0, hz1, hz2⟩ := info_parts info_heard
  obtain ⟨w', hr, ho, hg⟩ := run_make_full (P := Try.prog) w w.heap.size 50 57 i _ 2 Try.underlying50 hi hz0 hz1 .i64 .i64 n (by rw [hz2]; omega) (by unfold maxLen; omega) (Nat.le_refl _)
  refine ⟨w', hr, ⟨hg.os, hg.tape, hg.output, hg.size, fun k hk => hg.block k hk (by simp)⟩, fun k => ⟨?_, ho, fun i hi => ?_, fun i j b _ _ h1 _ => ?_⟩⟩
  · rw [rowsG_len, Array.length_toList, size_madeCells]
  · rw [rowsG_at, made_nil]
    exact World.ownsRow_nil _ _ _ _
  · rw [made_nil] at h1
    cases h1
end Go.Proofs.Ytmobcijigiacoaa

namespace Go.Proofs.Ytmobcijigiacoaa
open Go.RowKit
set_option maxRecDepth 100000
set_option maxHeartbeats 16000000 in
theorem evListen_any (vl : Value) (all : List Ls) (k : ByteArray) (N : Nat) (w : World) (hl : LsV w vl all) (hn : all.length ≤ 1000) (hN : N ≤ 400) :
    Calls Try.prog 27 #[vl, .string k, .int .i64 (N : Int)] w fun e w' => ∃ V, e = .returned (.slice (some ⟨w.heap.size, 0, none⟩) N N) ∧ RowsH w.heap.size w' (.slice (some ⟨w.heap.size, 0, none⟩) N N) (rowsG k N all) V N ∧ Below w.heap.size w w' := by
  obtain ⟨w1, MK, b1, R1⟩ := make_heard N hN w
  have R1 := hide (R1 k)
  have B1 := hide b1
  obtain ⟨A, hA, p, kk, rfl, hc⟩ := hl
  have HC := hide hc
  obtain ⟨iI, hI0, hI1, hI2, hI3⟩ := info_parts infoI
  clear b1 hc
  go_enter Try.func27, Try.ntmps27
  go_wp2_with fail
  go_loopw [14] (fun iv wr => ∃ (i : Nat) (V : List Value), i ≤ all.length ∧ iv = .int .i64 i ∧ Hid (RowsH w.heap.size wr (.slice (some ⟨w.heap.size, 0, none⟩) N N) (rowsG k N (all.take i)) V N) ∧ Hid (Below w.heap.size w wr)) (fun iv _ => all.length - (intOf iv).toNat)
  case atStart => exact ⟨0, _, Nat.zero_le _, rfl, R1, B1⟩
  case round =>
    obtain ⟨i, V, hi, rfl, RX, BX⟩ := hrel
    by_cases g : i < all.length
    · have i1 : (i : Int) < (all.length : Int) := by omega
      have i0 : (0 : Int) ≤ (i : Int) := by omega
      obtain ⟨b, o, rfl, hcc⟩ : ∃ b o, p = some ⟨b, o, none⟩ ∧ ∀ i (h : i < all.length), LsAt w b (o + i * 4) all[i] (aAt A i) := by
        rcases HC.out with t | t
        · rw [t] at g; simp at g
        · exact t
      have L0 := hide (hcc i g)
      have hcn : Hid (w.cell? ⟨b, o + i * 4, none⟩ = some (.int .i64 all[i].node)) := L0.out 0 _ rfl
      have cn : wr.cell? ⟨b, o + i * 4, none⟩ = some (.int .i64 all[i].node) := cell_below hcn.out BX.out
      have ct := cell_below (L0.out 1 _ rfl) BX.out
      have cc := cell_below (L0.out 2 _ rfl) BX.out
      have TK : Hid (all.take (i + 1) = all.take i ++ [all[i]]) := List.take_succ_eq_append_getElem g
      have LT : Hid ((all.take i).length = i) := by show _ = _; rw [List.length_take]; omega
      have SKIP : Hid (¬ (all[i].typ = k ∧ 0 ≤ all[i].node ∧ all[i].node < (N : Int)) → RowsH w.heap.size wr (.slice (some ⟨w.heap.size, 0, none⟩) N N) (rowsG k N (all.take (i + 1))) V N) := fun q => by
        rw [TK.out, rows_skip q]; exact RX.out
      clear hcc L0
      by_cases ht : all[i].typ = k
      · by_cases h0 : all[i].node < 0
        · have SK := hide (SKIP.out (fun q => by omega))
          clear SKIP TK LT
          generalize all[i].node = nd at *
          generalize all[i].cap = cp at *
          rw [ht] at ct
          clear ht
          go_wp2_with fail
          go_roundw
          case rel => exact ⟨i + 1, V, by omega, by go_num, SK, BX⟩
          case measure => simp [intOf]; omega
        · by_cases h1 : all[i].node < (N : Int)
          · obtain ⟨n, en⟩ : ∃ n : Nat, all[i].node = (n : Int) := ⟨all[i].node.toNat, by omega⟩
            have hnN : n < N := by omega
            cases cp : all[i].cap with
            | true =>
              have hx0 := rows_put (all := all.take i) (N := N) (k := k) ht en hnN
              rw [cp] at hx0
              obtain ⟨hpl, hpv⟩ := plc_at (k := k) (N := N) (all := all.take i) (c := true) hnN
              have hn2 := rowsG_len (k := k) (N := N) (all := all.take i)
              have pl : plcB n true = n * 2 := rfl
              rw [LT.out, pl] at hx0
              rw [← TK.out] at hx0
              have HX := hide hx0
              have RX1 := RX.out
              obtain ⟨XS, hXS⟩ : ∃ XS, XS = idxF (n : Int) k true 0 (all.take i) := ⟨_, rfl⟩
              have xl := idx_len (n : Int) k true (all.take i) 0
              rw [LT.out] at xl
              have OX : KidsO w.heap.size wr (hAt V (n * 2)) (idxF (n : Int) k true 0 (all.take i)) := by
                have := RX1.at_ _ hpl
                rwa [hpv] at this
              have HPL : Hid (n * 2 < (rowsG k N (all.take i)).length) := hpl
              have ca : wr.cell? ⟨w.heap.size, n * 2, none⟩ = some (hAt V (n * 2)) := owns_cell RX1.row rfl (hAt_at (by rw [RX1.len, hn2]; omega))
              have b0 : Below wr.heap.size wr wr.drew := ⟨rfl, rfl, rfl, Nat.le_refl _, fun _ _ => rfl⟩
              have AL : Below wr.heap.size wr (wr.drew.alloc (.cells #[.int .i64 (i : Int)] 3)) := b0.alloc (Nat.le_refl _) _
              have RZ := hide (RX1.below AL)
              have OZ := hide (owns_below OX AL)
              have caZ : (wr.drew.alloc (.cells #[.int .i64 (i : Int)] 3)).cell? ⟨w.heap.size, n * 2, none⟩ = some (hAt V (n * 2)) := cell_below ca AL
              have RAW := hide ((Bk.new wr.drew [.int .i64 (i : Int)] 3).raw 1 1 rfl 1)
              have BZ : Hid (Below w.heap.size w (wr.drew.alloc (.cells #[.int .i64 (i : Int)] 3))) := chain BX.out AL
              have WZ : Hid (w.heap.size ≤ (wr.drew.alloc (.cells #[.int .i64 (i : Int)] 3)).heap.size) := BZ.out.size
              have FGE : Hid (∀ j, (hAt V (n * 2)).ownBlock = some j → w.heap.size ≤ j) := fun j hj => (RX1.lt hpl hj).1
              have FNE : Hid (b ≠ w.heap.size) := fun e => by
                have := World.block_lt_of_cell? _ _ (hcn.out)
                have h2 : (⟨b, o + i * 4, none⟩ : Addr).block = b := rfl
                omega
              have FARV : Hid (∀ j, (hAt V (n * 2)).ownBlock = some j → j ≠ w.heap.size) := fun j hj q => rowsh_far OX RX1.row j hj (by rw [q]; rfl)
              have NKZ : Hid ((wr.drew.alloc (.cells #[.int .i64 (i : Int)] 3)).cell? ⟨b, o + i * 4, none⟩ = some (.int .i64 (n : Int))) := by
                rw [← en]; exact cell_below cn AL
              have NK8 : Hid (∀ w8, Chg (hAt V (n * 2)).ownBlock.toList (wr.drew.alloc (.cells #[.int .i64 (i : Int)] 3)) w8 → w8.cell? ⟨b, o + i * 4, none⟩ = some (.int .i64 (n : Int))) := fun w8 h => h.cell NKZ.out (fun q => by
                have h1 := FGE.out _ (opt_mem.1 q)
                have := World.block_lt_of_cell? _ _ (hcn.out)
                have h2 : (⟨b, o + i * 4, none⟩ : Addr).block = b := rfl
                have h3 : b < w.heap.size := by omega
                have h4 : w.heap.size ≤ b := h1
                omega)
              have CA8 : Hid (∀ w8, Chg (hAt V (n * 2)).ownBlock.toList (wr.drew.alloc (.cells #[.int .i64 (i : Int)] 3)) w8 → w8.cell? ⟨w.heap.size, n * 2, none⟩ = some (hAt V (n * 2)) ∧ w8.frozen? ⟨w.heap.size, n * 2, none⟩ = false) := fun w8 h => by
                have r := owns_kept RZ.out.row h (fun j hj q => by cases hj; exact FARV.out _ (opt_mem.1 q) rfl)
                exact ⟨owns_cell r rfl (hAt_at (by rw [RX1.len, hn2]; omega)), owns_free r rfl _⟩
              rw [ht] at ct
              rw [cp] at cc
              rw [en] at cn
              have nlt : (n : Int) < (N : Int) := by omega
              have n0 : (0 : Int) ≤ (n : Int) := by omega
              clear hpl hpv hx0 hn2 pl SKIP TK LT ht cp RX RX1 OX AL b0 FARV
              rw [← hXS] at OZ xl HX
              clear hXS
              generalize XS = xs at *
              obtain ⟨vp, hvp⟩ : ∃ vp, hAt V (n * 2) = vp := ⟨_, rfl⟩
              rw [hvp] at ca caZ OZ FGE NK8 CA8
              have HV := hide hvp
              have caY : (wr.alloc (.cells #[.int .i64 (i : Int)] 3)).cell? ⟨w.heap.size, n * 2, none⟩ = some vp := caZ
              clear hvp
              go_wp2_with fail
              refine wp_region_held_drew (S := fun W => W.cell? ⟨b, o + i * 4, none⟩ = some (.int .i64 (n : Int))) (by kernel_rfl) ?_ (fun hHeld => ?_)
              · exact cn
              refine wpAnyH_take (i := 0) (oi := { dst := some 45, op := Op.move (Operand.tmp 7), type := 50, pos := "event.go:86", after := #[], guard := none }) (v := ?_) rfl (by kernel_rfl) (by kernel_rfl) (by kernel_rfl) (fun _ _ _ h => h) (Or.inl ⟨by rfl, ?_⟩) (by assumption) ?_
              rotate_left
              · (intro w hSw; (try dsimp only at hSw); first | (go_simp; done) | (go_simp; with_reducible rfl))
              simp only [Act.put, List.setIfInBounds_toArray, List.set_cons_zero, List.set_cons_succ]
              refine wpAnyH_take (i := 1) (oi := { dst := some 46, op := Op.move (Operand.tmp 9), type := 60, pos := "event.go:86", after := #[], guard := none }) (v := ?_) rfl (by kernel_rfl) (by kernel_rfl) (by kernel_rfl) (fun _ _ _ h => h) (Or.inl ⟨by rfl, ?_⟩) (by assumption) ?_
              rotate_left
              · (intro w hSw; (try dsimp only at hSw); first | (go_simp; done) | (go_simp; with_reducible rfl))
              simp only [Act.put, List.setIfInBounds_toArray, List.set_cons_zero, List.set_cons_succ]
              refine wpAnyH_take (i := 2) (oi := { dst := some 47, op := Op.nilCheck (Operand.tmp 46), type := 0, pos := "event.go:86", after := #[{ on := 1, ground := Ground.data }], guard := none }) (v := ?_) rfl (by kernel_rfl) (by kernel_rfl) (by kernel_rfl) (fun _ _ _ h => h) (Or.inl ⟨by rfl, ?_⟩) (by assumption) ?_
              rotate_left
              · (intro w hSw; (try dsimp only at hSw); first | (go_simp; done) | (go_simp; with_reducible rfl))
              simp only [Act.put, List.setIfInBounds_toArray, List.set_cons_zero, List.set_cons_succ]
              refine wpAnyH_take (i := 3) (oi := { dst := some 48, op := Op.fieldAddr 41 (Operand.tmp 47) 0, type := 0, pos := "event.go:86", after := #[{ on := 2, ground := Ground.data }], guard := none }) (v := ?_) rfl (by kernel_rfl) (by kernel_rfl) (by kernel_rfl) (fun _ _ _ h => h) (Or.inl ⟨by rfl, ?_⟩) (by assumption) ?_
              rotate_left
              · (intro w hSw; (try dsimp only at hSw); first | (go_simp; done) | (go_simp; with_reducible rfl))
              simp only [Act.put, List.setIfInBounds_toArray, List.set_cons_zero, List.set_cons_succ]
              refine wpAnyH_take (i := 4) (oi := { dst := some 49, op := Op.load 3 (Operand.tmp 48), type := 3, pos := "event.go:86", after := #[{ on := 3, ground := Ground.data }], guard := none }) (v := ?_) rfl (by kernel_rfl) (by kernel_rfl) (by kernel_rfl) (fun _ _ _ h => h) (Or.inl ⟨by rfl, ?_⟩) (by assumption) ?_
              rotate_left
              · (intro w hSw; (try dsimp only at hSw); first | (go_simp; done) | (go_simp; with_reducible rfl))
              simp only [Act.put, List.setIfInBounds_toArray, List.set_cons_zero, List.set_cons_succ]
              refine wpAnyH_take (i := 5) (oi := { dst := some 50, op := Op.move (Operand.tmp 7), type := 50, pos := "event.go:86", after := #[], guard := none }) (v := ?_) rfl (by kernel_rfl) (by kernel_rfl) (by kernel_rfl) (fun _ _ _ h => h) (Or.inl ⟨by rfl, ?_⟩) (by assumption) ?_
              rotate_left
              · (intro w hSw; (try dsimp only at hSw); first | (go_simp; done) | (go_simp; with_reducible rfl))
              simp only [Act.put, List.setIfInBounds_toArray, List.set_cons_zero, List.set_cons_succ]
              refine wpAnyH_take (i := 6) (oi := { dst := some 51, op := Op.move (Operand.tmp 9), type := 60, pos := "event.go:86", after := #[], guard := none }) (v := ?_) rfl (by kernel_rfl) (by kernel_rfl) (by kernel_rfl) (fun _ _ _ h => h) (Or.inl ⟨by rfl, ?_⟩) (by assumption) ?_
              rotate_left
              · (intro w hSw; (try dsimp only at hSw); first | (go_simp; done) | (go_simp; with_reducible rfl))
              simp only [Act.put, List.setIfInBounds_toArray, List.set_cons_zero, List.set_cons_succ]
              refine wpAnyH_take (i := 7) (oi := { dst := some 52, op := Op.nilCheck (Operand.tmp 51), type := 0, pos := "event.go:86", after := #[{ on := 6, ground := Ground.data }], guard := none }) (v := ?_) rfl (by kernel_rfl) (by kernel_rfl) (by kernel_rfl) (fun _ _ _ h => h) (Or.inl ⟨by rfl, ?_⟩) (by assumption) ?_
              rotate_left
              · (intro w hSw; (try dsimp only at hSw); first | (go_simp; done) | (go_simp; with_reducible rfl))
              simp only [Act.put, List.setIfInBounds_toArray, List.set_cons_zero, List.set_cons_succ]
              refine wpAnyH_take (i := 8) (oi := { dst := some 53, op := Op.fieldAddr 41 (Operand.tmp 52) 0, type := 0, pos := "event.go:86", after := #[{ on := 7, ground := Ground.data }], guard := none }) (v := ?_) rfl (by kernel_rfl) (by kernel_rfl) (by kernel_rfl) (fun _ _ _ h => h) (Or.inl ⟨by rfl, ?_⟩) (by assumption) ?_
              rotate_left
              · (intro w hSw; (try dsimp only at hSw); first | (go_simp; done) | (go_simp; with_reducible rfl))
              simp only [Act.put, List.setIfInBounds_toArray, List.set_cons_zero, List.set_cons_succ]
              refine wpAnyH_take (i := 9) (oi := { dst := some 54, op := Op.load 3 (Operand.tmp 53), type := 3, pos := "event.go:86", after := #[{ on := 8, ground := Ground.data }], guard := none }) (v := ?_) rfl (by kernel_rfl) (by kernel_rfl) (by kernel_rfl) (fun _ _ _ h => h) (Or.inl ⟨by rfl, ?_⟩) (by assumption) ?_
              rotate_left
              · (intro w hSw; (try dsimp only at hSw); first | (go_simp; done) | (go_simp; with_reducible rfl))
              simp only [Act.put, List.setIfInBounds_toArray, List.set_cons_zero, List.set_cons_succ]
              refine wpAnyH_take (i := 10) (oi := { dst := some 55, op := Op.indexAddr 50 (Operand.tmp 50) (Operand.tmp 54), type := 0, pos := "event.go:86", after := #[{ on := 5, ground := Ground.data }, { on := 9, ground := Ground.data }], guard := none }) (v := ?_) rfl (by kernel_rfl) (by kernel_rfl) (by kernel_rfl) (fun _ _ _ h => h) (Or.inl ⟨by rfl, ?_⟩) (by assumption) ?_
              rotate_left
              · (intro w hSw; (try dsimp only at hSw); first | (go_simp; done) | (go_simp; with_reducible rfl))
              simp only [Act.put, List.setIfInBounds_toArray, List.set_cons_zero, List.set_cons_succ]
              refine wpAnyH_take (i := 11) (oi := { dst := some 56, op := Op.fieldAddr 57 (Operand.tmp 55) 0, type := 0, pos := "event.go:86", after := #[{ on := 10, ground := Ground.data }], guard := none }) (v := ?_) rfl (by kernel_rfl) (by kernel_rfl) (by kernel_rfl) (fun _ _ _ h => h) (Or.inl ⟨by rfl, ?_⟩) (by assumption) ?_
              rotate_left
              · (intro w hSw; (try dsimp only at hSw); first | (go_simp; done) | (go_simp; with_reducible rfl))
              simp only [Act.put, List.setIfInBounds_toArray, List.set_cons_zero, List.set_cons_succ]
              refine wpAnyH_take (i := 13) (oi := { dst := some 58, op := Op.move (Operand.tmp 8), type := 3, pos := "event.go:86", after := #[], guard := none }) (v := ?_) rfl (by kernel_rfl) (by kernel_rfl) (by kernel_rfl) (fun _ _ _ h => h) (Or.inl ⟨by rfl, ?_⟩) (by assumption) ?_
              rotate_left
              · (intro w hSw; (try dsimp only at hSw); first | (go_simp; done) | (go_simp; with_reducible rfl))
              simp only [Act.put, List.setIfInBounds_toArray, List.set_cons_zero, List.set_cons_succ]
              refine wpAnyH_ready (rs := [12, 14]) (by kernel_rfl) (by simp) ?_
              refine AllReadyH.cons (i := 12) (o := { dst := some 57, op := Op.load 25 (Operand.tmp 56), type := 25, pos := "event.go:86", after := #[{ on := 11, ground := Ground.data }], guard := none }) rfl (fun K hK => ?_) (AllReadyH.cons (i := 14) (o := { dst := some 59, op := Op.buildSlice 25 1 #[(0, Operand.tmp 58)], type := 25, pos := "event.go:86", after := #[{ on := 13, ground := Ground.data }], guard := none }) rfl (fun K hK => ?_) AllReadyH.nil)
              · go_simp
                refine hK.out _ _ ?_ (fun hHeld => ?_)
                · exact hHeld
                clear hK K
                refine wpAnyH_ready (rs := [14]) (by kernel_rfl) (by simp) ?_
                refine AllReadyH.cons (i := 14) (o := { dst := some 59, op := Op.buildSlice 25 1 #[(0, Operand.tmp 58)], type := 25, pos := "event.go:86", after := #[{ on := 13, ground := Ground.data }], guard := none }) rfl (fun K hK => ?_) AllReadyH.nil
                go_simp
                refine hK.out _ _ ?_ (fun hHeld => ?_)
                · exact NKZ.out
                clear hK K
                refine wpAnyH_ready (rs := [15]) (by kernel_rfl) (by simp) ?_
                refine AllReadyH.cons (i := 15) (o := { dst := some 60, op := Op.call { callee := Callee.builtin Builtin.append, args := #[Operand.tmp 57, Operand.tmp 59], argTypes := #[25, 25] }, type := 25, pos := "event.go:86", after := #[{ on := 12, ground := Ground.data }, { on := 14, ground := Ground.data }], guard := none }) rfl (fun K hK => ?_) AllReadyH.nil
                refine step_append_raw rfl _ _ _ rfl w.heap.size 3 iI _ 1 8 Try.underlying25 hI0 hI1 hI2 hI3 rfl (by omega) _ xs.length (cellsI xs) rfl OZ.out _ 1 _ rfl RAW.out (by simp [Value.oneCell']) (by unfold maxLen; omega) (by omega) WZ.out ?_
                intro q8 k8 w8 own8 gr8 at8
                have ch8 : Hid (Chg vp.ownBlock.toList (wr.drew.alloc (.cells #[.int .i64 (i : Int)] 3)) w8) := Chg.of_grown gr8
                have nk8 := hide (NK8.out w8 ch8.out)
                have ca8 := (CA8.out w8 ch8.out).1
                have fa8 := (CA8.out w8 ch8.out).2
                clear gr8
                have own8 := hide own8
                have at8 : Hid ((Value.slice q8 (xs.length + 1) k8).ownBlock = vp.ownBlock ∨ (Value.slice q8 (xs.length + 1) k8).ownBlock = some (wr.drew.alloc (.cells #[.int .i64 (i : Int)] 3)).heap.size) := at8
                refine hK.out _ _ ?_ (fun hHeld => ?_)
                · exact nk8.out
                clear hK K
                refine wpAnyH_take (i := 16) (oi := { dst := some 61, op := Op.indexAddr 50 (Operand.tmp 45) (Operand.tmp 49), type := 0, pos := "event.go:86", after := #[{ on := 0, ground := Ground.data }, { on := 4, ground := Ground.data }, { on := 0, ground := Ground.phase }, { on := 1, ground := Ground.phase }, { on := 2, ground := Ground.phase }, { on := 3, ground := Ground.phase }, { on := 4, ground := Ground.phase }, { on := 5, ground := Ground.phase }, { on := 6, ground := Ground.phase }, { on := 7, ground := Ground.phase }, { on := 8, ground := Ground.phase }, { on := 9, ground := Ground.phase }, { on := 10, ground := Ground.phase }, { on := 11, ground := Ground.phase }, { on := 12, ground := Ground.phase }, { on := 13, ground := Ground.phase }, { on := 14, ground := Ground.phase }, { on := 15, ground := Ground.phase }], guard := none }) (v := ?_) rfl (by kernel_rfl) (by kernel_rfl) (by kernel_rfl) (fun _ _ _ h => h) (Or.inl ⟨by rfl, ?_⟩) (by assumption) ?_
                rotate_left
                · (intro w hSw; (try dsimp only at hSw); first | (go_simp; done) | (go_simp; with_reducible rfl))
                simp only [Act.put, List.setIfInBounds_toArray, List.set_cons_zero, List.set_cons_succ]
                refine wpAnyH_take (i := 17) (oi := { dst := some 62, op := Op.fieldAddr 57 (Operand.tmp 61) 0, type := 0, pos := "event.go:86", after := #[{ on := 16, ground := Ground.data }, { on := 0, ground := Ground.phase }, { on := 1, ground := Ground.phase }, { on := 2, ground := Ground.phase }, { on := 3, ground := Ground.phase }, { on := 4, ground := Ground.phase }, { on := 5, ground := Ground.phase }, { on := 6, ground := Ground.phase }, { on := 7, ground := Ground.phase }, { on := 8, ground := Ground.phase }, { on := 9, ground := Ground.phase }, { on := 10, ground := Ground.phase }, { on := 11, ground := Ground.phase }, { on := 12, ground := Ground.phase }, { on := 13, ground := Ground.phase }, { on := 14, ground := Ground.phase }, { on := 15, ground := Ground.phase }], guard := none }) (v := ?_) rfl (by kernel_rfl) (by kernel_rfl) (by kernel_rfl) (fun _ _ _ h => h) (Or.inl ⟨by rfl, ?_⟩) (by assumption) ?_
                rotate_left
                · (intro w hSw; (try dsimp only at hSw); first | (go_simp; done) | (go_simp; with_reducible rfl))
                simp only [Act.put, List.setIfInBounds_toArray, List.set_cons_zero, List.set_cons_succ]
                refine wpAnyH_ready (rs := [18]) (by kernel_rfl) (by simp) ?_
                refine AllReadyH.cons (i := 18) (o := { dst := none, op := Op.store 25 (Operand.tmp 62) (Operand.tmp 60), type := 0, pos := "event.go:86", after := #[{ on := 17, ground := Ground.data }, { on := 15, ground := Ground.data }, { on := 15, ground := Ground.chain }, { on := 0, ground := Ground.phase }, { on := 1, ground := Ground.phase }, { on := 2, ground := Ground.phase }, { on := 3, ground := Ground.phase }, { on := 4, ground := Ground.phase }, { on := 5, ground := Ground.phase }, { on := 6, ground := Ground.phase }, { on := 7, ground := Ground.phase }, { on := 8, ground := Ground.phase }, { on := 9, ground := Ground.phase }, { on := 10, ground := Ground.phase }, { on := 11, ground := Ground.phase }, { on := 12, ground := Ground.phase }, { on := 13, ground := Ground.phase }, { on := 14, ground := Ground.phase }, { on := 15, ground := Ground.phase }], guard := none }) rfl (fun K hK => ?_) AllReadyH.nil
                go_simp
                refine hK.out _ _ ?_ (fun hHeld => ?_)
                · exact (World.cell?_setCell_other _ _ _ _ (fun e => FNE.out (congrArg Addr.block e).symm)).trans nk8.out
                clear hK K
                refine wpAnyH_done (by kernel_rfl) ?_ _
                have O8 : Hid (KidsO w.heap.size w8 (.slice q8 (xs.length + 1) k8) (xs ++ [(i : Int)])) := by
                  show World.ownsRow _ _ _ _ _ _ _
                  rw [List.length_append, cellsI_app]
                  exact own8.out
                have R9 := hide (RZ.out.put (p := n * 2) HPL.out (by rw [HV.out]; exact ch8.out) O8.out ((by rw [HV.out]; exact at8.out : (Value.slice q8 (xs.length + 1) k8).ownBlock = (hAt V (n * 2)).ownBlock ∨ (Value.slice q8 (xs.length + 1) k8).ownBlock = some (wr.drew.alloc (.cells #[.int .i64 (i : Int)] 3)).heap.size).imp id (fun e b hb => by rw [e] at hb; cases hb; exact Nat.le_refl _)) (g := w.heap.size) rfl)
                have B9 : Hid (Below w.heap.size w (w8.setCell ⟨w.heap.size, n * 2, none⟩ (.slice q8 (xs.length + 1) k8))) := by
                  have h1 : Below w.heap.size w w8 := BZ.out.trans (ch8.out.below WZ.out (fun j hj => (FGE.out j (opt_mem.1 hj))))
                  exact ⟨h1.os, h1.tape, h1.output, by rw [World.size_setCell]; exact h1.size, fun j hj => (Below.heap_setCell _ _ _ _ (fun e => by have e2 : j = w.heap.size := e; omega)).trans (h1.block j hj)⟩
                clear own8 at8 O8 ca8 fa8
                go_wp2_with fail
                go_roundw
                case rel => exact ⟨i + 1, _, by omega, by go_num, by show RowsH _ _ _ _ _ _; rw [HX.out]; exact R9.out, B9⟩
                case measure => simp [intOf]; omega
              · go_simp
                refine hK.out _ _ ?_ (fun hHeld => ?_)
                · exact NKZ.out
                clear hK K
                refine wpAnyH_ready (rs := [12]) (by kernel_rfl) (by simp) ?_
                refine AllReadyH.cons (i := 12) (o := { dst := some 57, op := Op.load 25 (Operand.tmp 56), type := 25, pos := "event.go:86", after := #[{ on := 11, ground := Ground.data }], guard := none }) rfl (fun K hK => ?_) AllReadyH.nil
                go_simp
                refine hK.out _ _ ?_ (fun hHeld => ?_)
                · exact NKZ.out
                clear hK K
                refine wpAnyH_ready (rs := [15]) (by kernel_rfl) (by simp) ?_
                refine AllReadyH.cons (i := 15) (o := { dst := some 60, op := Op.call { callee := Callee.builtin Builtin.append, args := #[Operand.tmp 57, Operand.tmp 59], argTypes := #[25, 25] }, type := 25, pos := "event.go:86", after := #[{ on := 12, ground := Ground.data }, { on := 14, ground := Ground.data }], guard := none }) rfl (fun K hK => ?_) AllReadyH.nil
                refine step_append_raw rfl _ _ _ rfl w.heap.size 3 iI _ 1 8 Try.underlying25 hI0 hI1 hI2 hI3 rfl (by omega) _ xs.length (cellsI xs) rfl OZ.out _ 1 _ rfl RAW.out (by simp [Value.oneCell']) (by unfold maxLen; omega) (by omega) WZ.out ?_
                intro q8 k8 w8 own8 gr8 at8
                have ch8 : Hid (Chg vp.ownBlock.toList (wr.drew.alloc (.cells #[.int .i64 (i : Int)] 3)) w8) := Chg.of_grown gr8
                have nk8 := hide (NK8.out w8 ch8.out)
                have ca8 := (CA8.out w8 ch8.out).1
                have fa8 := (CA8.out w8 ch8.out).2
                clear gr8
                have own8 := hide own8
                have at8 : Hid ((Value.slice q8 (xs.length + 1) k8).ownBlock = vp.ownBlock ∨ (Value.slice q8 (xs.length + 1) k8).ownBlock = some (wr.drew.alloc (.cells #[.int .i64 (i : Int)] 3)).heap.size) := at8
                refine hK.out _ _ ?_ (fun hHeld => ?_)
                · exact nk8.out
                clear hK K
                refine wpAnyH_take (i := 16) (oi := { dst := some 61, op := Op.indexAddr 50 (Operand.tmp 45) (Operand.tmp 49), type := 0, pos := "event.go:86", after := #[{ on := 0, ground := Ground.data }, { on := 4, ground := Ground.data }, { on := 0, ground := Ground.phase }, { on := 1, ground := Ground.phase }, { on := 2, ground := Ground.phase }, { on := 3, ground := Ground.phase }, { on := 4, ground := Ground.phase }, { on := 5, ground := Ground.phase }, { on := 6, ground := Ground.phase }, { on := 7, ground := Ground.phase }, { on := 8, ground := Ground.phase }, { on := 9, ground := Ground.phase }, { on := 10, ground := Ground.phase }, { on := 11, ground := Ground.phase }, { on := 12, ground := Ground.phase }, { on := 13, ground := Ground.phase }, { on := 14, ground := Ground.phase }, { on := 15, ground := Ground.phase }], guard := none }) (v := ?_) rfl (by kernel_rfl) (by kernel_rfl) (by kernel_rfl) (fun _ _ _ h => h) (Or.inl ⟨by rfl, ?_⟩) (by assumption) ?_
                rotate_left
                · (intro w hSw; (try dsimp only at hSw); first | (go_simp; done) | (go_simp; with_reducible rfl))
                simp only [Act.put, List.setIfInBounds_toArray, List.set_cons_zero, List.set_cons_succ]
                refine wpAnyH_take (i := 17) (oi := { dst := some 62, op := Op.fieldAddr 57 (Operand.tmp 61) 0, type := 0, pos := "event.go:86", after := #[{ on := 16, ground := Ground.data }, { on := 0, ground := Ground.phase }, { on := 1, ground := Ground.phase }, { on := 2, ground := Ground.phase }, { on := 3, ground := Ground.phase }, { on := 4, ground := Ground.phase }, { on := 5, ground := Ground.phase }, { on := 6, ground := Ground.phase }, { on := 7, ground := Ground.phase }, { on := 8, ground := Ground.phase }, { on := 9, ground := Ground.phase }, { on := 10, ground := Ground.phase }, { on := 11, ground := Ground.phase }, { on := 12, ground := Ground.phase }, { on := 13, ground := Ground.phase }, { on := 14, ground := Ground.phase }, { on := 15, ground := Ground.phase }], guard := none }) (v := ?_) rfl (by kernel_rfl) (by kernel_rfl) (by kernel_rfl) (fun _ _ _ h => h) (Or.inl ⟨by rfl, ?_⟩) (by assumption) ?_
                rotate_left
                · (intro w hSw; (try dsimp only at hSw); first | (go_simp; done) | (go_simp; with_reducible rfl))
                simp only [Act.put, List.setIfInBounds_toArray, List.set_cons_zero, List.set_cons_succ]
                refine wpAnyH_ready (rs := [18]) (by kernel_rfl) (by simp) ?_
                refine AllReadyH.cons (i := 18) (o := { dst := none, op := Op.store 25 (Operand.tmp 62) (Operand.tmp 60), type := 0, pos := "event.go:86", after := #[{ on := 17, ground := Ground.data }, { on := 15, ground := Ground.data }, { on := 15, ground := Ground.chain }, { on := 0, ground := Ground.phase }, { on := 1, ground := Ground.phase }, { on := 2, ground := Ground.phase }, { on := 3, ground := Ground.phase }, { on := 4, ground := Ground.phase }, { on := 5, ground := Ground.phase }, { on := 6, ground := Ground.phase }, { on := 7, ground := Ground.phase }, { on := 8, ground := Ground.phase }, { on := 9, ground := Ground.phase }, { on := 10, ground := Ground.phase }, { on := 11, ground := Ground.phase }, { on := 12, ground := Ground.phase }, { on := 13, ground := Ground.phase }, { on := 14, ground := Ground.phase }, { on := 15, ground := Ground.phase }], guard := none }) rfl (fun K hK => ?_) AllReadyH.nil
                go_simp
                refine hK.out _ _ ?_ (fun hHeld => ?_)
                · exact (World.cell?_setCell_other _ _ _ _ (fun e => FNE.out (congrArg Addr.block e).symm)).trans nk8.out
                clear hK K
                refine wpAnyH_done (by kernel_rfl) ?_ _
                have O8 : Hid (KidsO w.heap.size w8 (.slice q8 (xs.length + 1) k8) (xs ++ [(i : Int)])) := by
                  show World.ownsRow _ _ _ _ _ _ _
                  rw [List.length_append, cellsI_app]
                  exact own8.out
                have R9 := hide (RZ.out.put (p := n * 2) HPL.out (by rw [HV.out]; exact ch8.out) O8.out ((by rw [HV.out]; exact at8.out : (Value.slice q8 (xs.length + 1) k8).ownBlock = (hAt V (n * 2)).ownBlock ∨ (Value.slice q8 (xs.length + 1) k8).ownBlock = some (wr.drew.alloc (.cells #[.int .i64 (i : Int)] 3)).heap.size).imp id (fun e b hb => by rw [e] at hb; cases hb; exact Nat.le_refl _)) (g := w.heap.size) rfl)
                have B9 : Hid (Below w.heap.size w (w8.setCell ⟨w.heap.size, n * 2, none⟩ (.slice q8 (xs.length + 1) k8))) := by
                  have h1 : Below w.heap.size w w8 := BZ.out.trans (ch8.out.below WZ.out (fun j hj => (FGE.out j (opt_mem.1 hj))))
                  exact ⟨h1.os, h1.tape, h1.output, by rw [World.size_setCell]; exact h1.size, fun j hj => (Below.heap_setCell _ _ _ _ (fun e => by have e2 : j = w.heap.size := e; omega)).trans (h1.block j hj)⟩
                clear own8 at8 O8 ca8 fa8
                go_wp2_with fail
                go_roundw
                case rel => exact ⟨i + 1, _, by omega, by go_num, by show RowsH _ _ _ _ _ _; rw [HX.out]; exact R9.out, B9⟩
                case measure => simp [intOf]; omega
            | false =>
              have hx0 := rows_put (all := all.take i) (N := N) (k := k) ht en hnN
              rw [cp] at hx0
              obtain ⟨hpl, hpv⟩ := plc_at (k := k) (N := N) (all := all.take i) (c := false) hnN
              have hn2 := rowsG_len (k := k) (N := N) (all := all.take i)
              have pl : plcB n false = n * 2 + 1 := rfl
              rw [LT.out, pl] at hx0
              rw [← TK.out] at hx0
              have HX := hide hx0
              have RX1 := RX.out
              obtain ⟨XS, hXS⟩ : ∃ XS, XS = idxF (n : Int) k false 0 (all.take i) := ⟨_, rfl⟩
              have xl := idx_len (n : Int) k false (all.take i) 0
              rw [LT.out] at xl
              have OX : KidsO w.heap.size wr (hAt V (n * 2 + 1)) (idxF (n : Int) k false 0 (all.take i)) := by
                have := RX1.at_ _ hpl
                rwa [hpv] at this
              have HPL : Hid (n * 2 + 1 < (rowsG k N (all.take i)).length) := hpl
              have ca : wr.cell? ⟨w.heap.size, n * 2 + 1, none⟩ = some (hAt V (n * 2 + 1)) := owns_cell RX1.row rfl (hAt_at (by rw [RX1.len, hn2]; omega))
              have b0 : Below wr.heap.size wr wr.drew := ⟨rfl, rfl, rfl, Nat.le_refl _, fun _ _ => rfl⟩
              have AL : Below wr.heap.size wr (wr.drew.alloc (.cells #[.int .i64 (i : Int)] 3)) := b0.alloc (Nat.le_refl _) _
              have RZ := hide (RX1.below AL)
              have OZ := hide (owns_below OX AL)
              have caZ : (wr.drew.alloc (.cells #[.int .i64 (i : Int)] 3)).cell? ⟨w.heap.size, n * 2 + 1, none⟩ = some (hAt V (n * 2 + 1)) := cell_below ca AL
              have RAW := hide ((Bk.new wr.drew [.int .i64 (i : Int)] 3).raw 1 1 rfl 1)
              have BZ : Hid (Below w.heap.size w (wr.drew.alloc (.cells #[.int .i64 (i : Int)] 3))) := chain BX.out AL
              have WZ : Hid (w.heap.size ≤ (wr.drew.alloc (.cells #[.int .i64 (i : Int)] 3)).heap.size) := BZ.out.size
              have FGE : Hid (∀ j, (hAt V (n * 2 + 1)).ownBlock = some j → w.heap.size ≤ j) := fun j hj => (RX1.lt hpl hj).1
              have FNE : Hid (b ≠ w.heap.size) := fun e => by
                have := World.block_lt_of_cell? _ _ (hcn.out)
                have h2 : (⟨b, o + i * 4, none⟩ : Addr).block = b := rfl
                omega
              have FARV : Hid (∀ j, (hAt V (n * 2 + 1)).ownBlock = some j → j ≠ w.heap.size) := fun j hj q => rowsh_far OX RX1.row j hj (by rw [q]; rfl)
              have NKZ : Hid ((wr.drew.alloc (.cells #[.int .i64 (i : Int)] 3)).cell? ⟨b, o + i * 4, none⟩ = some (.int .i64 (n : Int))) := by
                rw [← en]; exact cell_below cn AL
              have NK8 : Hid (∀ w8, Chg (hAt V (n * 2 + 1)).ownBlock.toList (wr.drew.alloc (.cells #[.int .i64 (i : Int)] 3)) w8 → w8.cell? ⟨b, o + i * 4, none⟩ = some (.int .i64 (n : Int))) := fun w8 h => h.cell NKZ.out (fun q => by
                have h1 := FGE.out _ (opt_mem.1 q)
                have := World.block_lt_of_cell? _ _ (hcn.out)
                have h2 : (⟨b, o + i * 4, none⟩ : Addr).block = b := rfl
                have h3 : b < w.heap.size := by omega
                have h4 : w.heap.size ≤ b := h1
                omega)
              have CA8 : Hid (∀ w8, Chg (hAt V (n * 2 + 1)).ownBlock.toList (wr.drew.alloc (.cells #[.int .i64 (i : Int)] 3)) w8 → w8.cell? ⟨w.heap.size, n * 2 + 1, none⟩ = some (hAt V (n * 2 + 1)) ∧ w8.frozen? ⟨w.heap.size, n * 2 + 1, none⟩ = false) := fun w8 h => by
                have r := owns_kept RZ.out.row h (fun j hj q => by cases hj; exact FARV.out _ (opt_mem.1 q) rfl)
                exact ⟨owns_cell r rfl (hAt_at (by rw [RX1.len, hn2]; omega)), owns_free r rfl _⟩
              rw [ht] at ct
              rw [cp] at cc
              rw [en] at cn
              have nlt : (n : Int) < (N : Int) := by omega
              have n0 : (0 : Int) ≤ (n : Int) := by omega
              clear hpl hpv hx0 hn2 pl SKIP TK LT ht cp RX RX1 OX AL b0 FARV
              rw [← hXS] at OZ xl HX
              clear hXS
              generalize XS = xs at *
              obtain ⟨vp, hvp⟩ : ∃ vp, hAt V (n * 2 + 1) = vp := ⟨_, rfl⟩
              rw [hvp] at ca caZ OZ FGE NK8 CA8
              have HV := hide hvp
              have caY : (wr.alloc (.cells #[.int .i64 (i : Int)] 3)).cell? ⟨w.heap.size, n * 2 + 1, none⟩ = some vp := caZ
              clear hvp
              go_wp2_with fail
              refine wp_region_held_drew (S := fun W => W.cell? ⟨b, o + i * 4, none⟩ = some (.int .i64 (n : Int))) (by kernel_rfl) ?_ (fun hHeld => ?_)
              · exact cn
              refine wpAnyH_take (i := 0) (oi := { dst := some 63, op := Op.move (Operand.tmp 7), type := 50, pos := "event.go:88", after := #[], guard := none }) (v := ?_) rfl (by kernel_rfl) (by kernel_rfl) (by kernel_rfl) (fun _ _ _ h => h) (Or.inl ⟨by rfl, ?_⟩) (by assumption) ?_
              rotate_left
              · (intro w hSw; (try dsimp only at hSw); first | (go_simp; done) | (go_simp; with_reducible rfl))
              simp only [Act.put, List.setIfInBounds_toArray, List.set_cons_zero, List.set_cons_succ]
              refine wpAnyH_take (i := 1) (oi := { dst := some 64, op := Op.move (Operand.tmp 9), type := 60, pos := "event.go:88", after := #[], guard := none }) (v := ?_) rfl (by kernel_rfl) (by kernel_rfl) (by kernel_rfl) (fun _ _ _ h => h) (Or.inl ⟨by rfl, ?_⟩) (by assumption) ?_
              rotate_left
              · (intro w hSw; (try dsimp only at hSw); first | (go_simp; done) | (go_simp; with_reducible rfl))
              simp only [Act.put, List.setIfInBounds_toArray, List.set_cons_zero, List.set_cons_succ]
              refine wpAnyH_take (i := 2) (oi := { dst := some 65, op := Op.nilCheck (Operand.tmp 64), type := 0, pos := "event.go:88", after := #[{ on := 1, ground := Ground.data }], guard := none }) (v := ?_) rfl (by kernel_rfl) (by kernel_rfl) (by kernel_rfl) (fun _ _ _ h => h) (Or.inl ⟨by rfl, ?_⟩) (by assumption) ?_
              rotate_left
              · (intro w hSw; (try dsimp only at hSw); first | (go_simp; done) | (go_simp; with_reducible rfl))
              simp only [Act.put, List.setIfInBounds_toArray, List.set_cons_zero, List.set_cons_succ]
              refine wpAnyH_take (i := 3) (oi := { dst := some 66, op := Op.fieldAddr 41 (Operand.tmp 65) 0, type := 0, pos := "event.go:88", after := #[{ on := 2, ground := Ground.data }], guard := none }) (v := ?_) rfl (by kernel_rfl) (by kernel_rfl) (by kernel_rfl) (fun _ _ _ h => h) (Or.inl ⟨by rfl, ?_⟩) (by assumption) ?_
              rotate_left
              · (intro w hSw; (try dsimp only at hSw); first | (go_simp; done) | (go_simp; with_reducible rfl))
              simp only [Act.put, List.setIfInBounds_toArray, List.set_cons_zero, List.set_cons_succ]
              refine wpAnyH_take (i := 4) (oi := { dst := some 67, op := Op.load 3 (Operand.tmp 66), type := 3, pos := "event.go:88", after := #[{ on := 3, ground := Ground.data }], guard := none }) (v := ?_) rfl (by kernel_rfl) (by kernel_rfl) (by kernel_rfl) (fun _ _ _ h => h) (Or.inl ⟨by rfl, ?_⟩) (by assumption) ?_
              rotate_left
              · (intro w hSw; (try dsimp only at hSw); first | (go_simp; done) | (go_simp; with_reducible rfl))
              simp only [Act.put, List.setIfInBounds_toArray, List.set_cons_zero, List.set_cons_succ]
              refine wpAnyH_take (i := 5) (oi := { dst := some 68, op := Op.move (Operand.tmp 7), type := 50, pos := "event.go:88", after := #[], guard := none }) (v := ?_) rfl (by kernel_rfl) (by kernel_rfl) (by kernel_rfl) (fun _ _ _ h => h) (Or.inl ⟨by rfl, ?_⟩) (by assumption) ?_
              rotate_left
              · (intro w hSw; (try dsimp only at hSw); first | (go_simp; done) | (go_simp; with_reducible rfl))
              simp only [Act.put, List.setIfInBounds_toArray, List.set_cons_zero, List.set_cons_succ]
              refine wpAnyH_take (i := 6) (oi := { dst := some 69, op := Op.move (Operand.tmp 9), type := 60, pos := "event.go:88", after := #[], guard := none }) (v := ?_) rfl (by kernel_rfl) (by kernel_rfl) (by kernel_rfl) (fun _ _ _ h => h) (Or.inl ⟨by rfl, ?_⟩) (by assumption) ?_
              rotate_left
              · (intro w hSw; (try dsimp only at hSw); first | (go_simp; done) | (go_simp; with_reducible rfl))
              simp only [Act.put, List.setIfInBounds_toArray, List.set_cons_zero, List.set_cons_succ]
              refine wpAnyH_take (i := 7) (oi := { dst := some 70, op := Op.nilCheck (Operand.tmp 69), type := 0, pos := "event.go:88", after := #[{ on := 6, ground := Ground.data }], guard := none }) (v := ?_) rfl (by kernel_rfl) (by kernel_rfl) (by kernel_rfl) (fun _ _ _ h => h) (Or.inl ⟨by rfl, ?_⟩) (by assumption) ?_
              rotate_left
              · (intro w hSw; (try dsimp only at hSw); first | (go_simp; done) | (go_simp; with_reducible rfl))
              simp only [Act.put, List.setIfInBounds_toArray, List.set_cons_zero, List.set_cons_succ]
              refine wpAnyH_take (i := 8) (oi := { dst := some 71, op := Op.fieldAddr 41 (Operand.tmp 70) 0, type := 0, pos := "event.go:88", after := #[{ on := 7, ground := Ground.data }], guard := none }) (v := ?_) rfl (by kernel_rfl) (by kernel_rfl) (by kernel_rfl) (fun _ _ _ h => h) (Or.inl ⟨by rfl, ?_⟩) (by assumption) ?_
              rotate_left
              · (intro w hSw; (try dsimp only at hSw); first | (go_simp; done) | (go_simp; with_reducible rfl))
              simp only [Act.put, List.setIfInBounds_toArray, List.set_cons_zero, List.set_cons_succ]
              refine wpAnyH_take (i := 9) (oi := { dst := some 72, op := Op.load 3 (Operand.tmp 71), type := 3, pos := "event.go:88", after := #[{ on := 8, ground := Ground.data }], guard := none }) (v := ?_) rfl (by kernel_rfl) (by kernel_rfl) (by kernel_rfl) (fun _ _ _ h => h) (Or.inl ⟨by rfl, ?_⟩) (by assumption) ?_
              rotate_left
              · (intro w hSw; (try dsimp only at hSw); first | (go_simp; done) | (go_simp; with_reducible rfl))
              simp only [Act.put, List.setIfInBounds_toArray, List.set_cons_zero, List.set_cons_succ]
              refine wpAnyH_take (i := 10) (oi := { dst := some 73, op := Op.indexAddr 50 (Operand.tmp 68) (Operand.tmp 72), type := 0, pos := "event.go:88", after := #[{ on := 5, ground := Ground.data }, { on := 9, ground := Ground.data }], guard := none }) (v := ?_) rfl (by kernel_rfl) (by kernel_rfl) (by kernel_rfl) (fun _ _ _ h => h) (Or.inl ⟨by rfl, ?_⟩) (by assumption) ?_
              rotate_left
              · (intro w hSw; (try dsimp only at hSw); first | (go_simp; done) | (go_simp; with_reducible rfl))
              simp only [Act.put, List.setIfInBounds_toArray, List.set_cons_zero, List.set_cons_succ]
              refine wpAnyH_take (i := 11) (oi := { dst := some 74, op := Op.fieldAddr 57 (Operand.tmp 73) 1, type := 0, pos := "event.go:88", after := #[{ on := 10, ground := Ground.data }], guard := none }) (v := ?_) rfl (by kernel_rfl) (by kernel_rfl) (by kernel_rfl) (fun _ _ _ h => h) (Or.inl ⟨by rfl, ?_⟩) (by assumption) ?_
              rotate_left
              · (intro w hSw; (try dsimp only at hSw); first | (go_simp; done) | (go_simp; with_reducible rfl))
              simp only [Act.put, List.setIfInBounds_toArray, List.set_cons_zero, List.set_cons_succ]
              refine wpAnyH_take (i := 13) (oi := { dst := some 76, op := Op.move (Operand.tmp 8), type := 3, pos := "event.go:88", after := #[], guard := none }) (v := ?_) rfl (by kernel_rfl) (by kernel_rfl) (by kernel_rfl) (fun _ _ _ h => h) (Or.inl ⟨by rfl, ?_⟩) (by assumption) ?_
              rotate_left
              · (intro w hSw; (try dsimp only at hSw); first | (go_simp; done) | (go_simp; with_reducible rfl))
              simp only [Act.put, List.setIfInBounds_toArray, List.set_cons_zero, List.set_cons_succ]
              refine wpAnyH_ready (rs := [12, 14]) (by kernel_rfl) (by simp) ?_
              refine AllReadyH.cons (i := 12) (o := { dst := some 75, op := Op.load 25 (Operand.tmp 74), type := 25, pos := "event.go:88", after := #[{ on := 11, ground := Ground.data }], guard := none }) rfl (fun K hK => ?_) (AllReadyH.cons (i := 14) (o := { dst := some 77, op := Op.buildSlice 25 1 #[(0, Operand.tmp 76)], type := 25, pos := "event.go:88", after := #[{ on := 13, ground := Ground.data }], guard := none }) rfl (fun K hK => ?_) AllReadyH.nil)
              · go_simp
                refine hK.out _ _ ?_ (fun hHeld => ?_)
                · exact hHeld
                clear hK K
                refine wpAnyH_ready (rs := [14]) (by kernel_rfl) (by simp) ?_
                refine AllReadyH.cons (i := 14) (o := { dst := some 77, op := Op.buildSlice 25 1 #[(0, Operand.tmp 76)], type := 25, pos := "event.go:88", after := #[{ on := 13, ground := Ground.data }], guard := none }) rfl (fun K hK => ?_) AllReadyH.nil
                go_simp
                refine hK.out _ _ ?_ (fun hHeld => ?_)
                · exact NKZ.out
                clear hK K
                refine wpAnyH_ready (rs := [15]) (by kernel_rfl) (by simp) ?_
                refine AllReadyH.cons (i := 15) (o := { dst := some 78, op := Op.call { callee := Callee.builtin Builtin.append, args := #[Operand.tmp 75, Operand.tmp 77], argTypes := #[25, 25] }, type := 25, pos := "event.go:88", after := #[{ on := 12, ground := Ground.data }, { on := 14, ground := Ground.data }], guard := none }) rfl (fun K hK => ?_) AllReadyH.nil
                refine step_append_raw rfl _ _ _ rfl w.heap.size 3 iI _ 1 8 Try.underlying25 hI0 hI1 hI2 hI3 rfl (by omega) _ xs.length (cellsI xs) rfl OZ.out _ 1 _ rfl RAW.out (by simp [Value.oneCell']) (by unfold maxLen; omega) (by omega) WZ.out ?_
                intro q8 k8 w8 own8 gr8 at8
                have ch8 : Hid (Chg vp.ownBlock.toList (wr.drew.alloc (.cells #[.int .i64 (i : Int)] 3)) w8) := Chg.of_grown gr8
                have nk8 := hide (NK8.out w8 ch8.out)
                have ca8 := (CA8.out w8 ch8.out).1
                have fa8 := (CA8.out w8 ch8.out).2
                clear gr8
                have own8 := hide own8
                have at8 : Hid ((Value.slice q8 (xs.length + 1) k8).ownBlock = vp.ownBlock ∨ (Value.slice q8 (xs.length + 1) k8).ownBlock = some (wr.drew.alloc (.cells #[.int .i64 (i : Int)] 3)).heap.size) := at8
                refine hK.out _ _ ?_ (fun hHeld => ?_)
                · exact nk8.out
                clear hK K
                refine wpAnyH_take (i := 16) (oi := { dst := some 79, op := Op.indexAddr 50 (Operand.tmp 63) (Operand.tmp 67), type := 0, pos := "event.go:88", after := #[{ on := 0, ground := Ground.data }, { on := 4, ground := Ground.data }, { on := 0, ground := Ground.phase }, { on := 1, ground := Ground.phase }, { on := 2, ground := Ground.phase }, { on := 3, ground := Ground.phase }, { on := 4, ground := Ground.phase }, { on := 5, ground := Ground.phase }, { on := 6, ground := Ground.phase }, { on := 7, ground := Ground.phase }, { on := 8, ground := Ground.phase }, { on := 9, ground := Ground.phase }, { on := 10, ground := Ground.phase }, { on := 11, ground := Ground.phase }, { on := 12, ground := Ground.phase }, { on := 13, ground := Ground.phase }, { on := 14, ground := Ground.phase }, { on := 15, ground := Ground.phase }], guard := none }) (v := ?_) rfl (by kernel_rfl) (by kernel_rfl) (by kernel_rfl) (fun _ _ _ h => h) (Or.inl ⟨by rfl, ?_⟩) (by assumption) ?_
                rotate_left
                · (intro w hSw; (try dsimp only at hSw); first | (go_simp; done) | (go_simp; with_reducible rfl))
                simp only [Act.put, List.setIfInBounds_toArray, List.set_cons_zero, List.set_cons_succ]
                refine wpAnyH_take (i := 17) (oi := { dst := some 80, op := Op.fieldAddr 57 (Operand.tmp 79) 1, type := 0, pos := "event.go:88", after := #[{ on := 16, ground := Ground.data }, { on := 0, ground := Ground.phase }, { on := 1, ground := Ground.phase }, { on := 2, ground := Ground.phase }, { on := 3, ground := Ground.phase }, { on := 4, ground := Ground.phase }, { on := 5, ground := Ground.phase }, { on := 6, ground := Ground.phase }, { on := 7, ground := Ground.phase }, { on := 8, ground := Ground.phase }, { on := 9, ground := Ground.phase }, { on := 10, ground := Ground.phase }, { on := 11, ground := Ground.phase }, { on := 12, ground := Ground.phase }, { on := 13, ground := Ground.phase }, { on := 14, ground := Ground.phase }, { on := 15, ground := Ground.phase }], guard := none }) (v := ?_) rfl (by kernel_rfl) (by kernel_rfl) (by kernel_rfl) (fun _ _ _ h => h) (Or.inl ⟨by rfl, ?_⟩) (by assumption) ?_
                rotate_left
                · (intro w hSw; (try dsimp only at hSw); first | (go_simp; done) | (go_simp; with_reducible rfl))
                simp only [Act.put, List.setIfInBounds_toArray, List.set_cons_zero, List.set_cons_succ]
                refine wpAnyH_ready (rs := [18]) (by kernel_rfl) (by simp) ?_
                refine AllReadyH.cons (i := 18) (o := { dst := none, op := Op.store 25 (Operand.tmp 80) (Operand.tmp 78), type := 0, pos := "event.go:88", after := #[{ on := 17, ground := Ground.data }, { on := 15, ground := Ground.data }, { on := 15, ground := Ground.chain }, { on := 0, ground := Ground.phase }, { on := 1, ground := Ground.phase }, { on := 2, ground := Ground.phase }, { on := 3, ground := Ground.phase }, { on := 4, ground := Ground.phase }, { on := 5, ground := Ground.phase }, { on := 6, ground := Ground.phase }, { on := 7, ground := Ground.phase }, { on := 8, ground := Ground.phase }, { on := 9, ground := Ground.phase }, { on := 10, ground := Ground.phase }, { on := 11, ground := Ground.phase }, { on := 12, ground := Ground.phase }, { on := 13, ground := Ground.phase }, { on := 14, ground := Ground.phase }, { on := 15, ground := Ground.phase }], guard := none }) rfl (fun K hK => ?_) AllReadyH.nil
                go_simp
                refine hK.out _ _ ?_ (fun hHeld => ?_)
                · exact (World.cell?_setCell_other _ _ _ _ (fun e => FNE.out (congrArg Addr.block e).symm)).trans nk8.out
                clear hK K
                refine wpAnyH_done (by kernel_rfl) ?_ _
                have O8 : Hid (KidsO w.heap.size w8 (.slice q8 (xs.length + 1) k8) (xs ++ [(i : Int)])) := by
                  show World.ownsRow _ _ _ _ _ _ _
                  rw [List.length_append, cellsI_app]
                  exact own8.out
                have R9 := hide (RZ.out.put (p := n * 2 + 1) HPL.out (by rw [HV.out]; exact ch8.out) O8.out ((by rw [HV.out]; exact at8.out : (Value.slice q8 (xs.length + 1) k8).ownBlock = (hAt V (n * 2 + 1)).ownBlock ∨ (Value.slice q8 (xs.length + 1) k8).ownBlock = some (wr.drew.alloc (.cells #[.int .i64 (i : Int)] 3)).heap.size).imp id (fun e b hb => by rw [e] at hb; cases hb; exact Nat.le_refl _)) (g := w.heap.size) rfl)
                have B9 : Hid (Below w.heap.size w (w8.setCell ⟨w.heap.size, n * 2 + 1, none⟩ (.slice q8 (xs.length + 1) k8))) := by
                  have h1 : Below w.heap.size w w8 := BZ.out.trans (ch8.out.below WZ.out (fun j hj => (FGE.out j (opt_mem.1 hj))))
                  exact ⟨h1.os, h1.tape, h1.output, by rw [World.size_setCell]; exact h1.size, fun j hj => (Below.heap_setCell _ _ _ _ (fun e => by have e2 : j = w.heap.size := e; omega)).trans (h1.block j hj)⟩
                clear own8 at8 O8 ca8 fa8
                go_wp2_with fail
                go_roundw
                case rel => exact ⟨i + 1, _, by omega, by go_num, by show RowsH _ _ _ _ _ _; rw [HX.out]; exact R9.out, B9⟩
                case measure => simp [intOf]; omega
              · go_simp
                refine hK.out _ _ ?_ (fun hHeld => ?_)
                · exact NKZ.out
                clear hK K
                refine wpAnyH_ready (rs := [12]) (by kernel_rfl) (by simp) ?_
                refine AllReadyH.cons (i := 12) (o := { dst := some 75, op := Op.load 25 (Operand.tmp 74), type := 25, pos := "event.go:88", after := #[{ on := 11, ground := Ground.data }], guard := none }) rfl (fun K hK => ?_) AllReadyH.nil
                go_simp
                refine hK.out _ _ ?_ (fun hHeld => ?_)
                · exact NKZ.out
                clear hK K
                refine wpAnyH_ready (rs := [15]) (by kernel_rfl) (by simp) ?_
                refine AllReadyH.cons (i := 15) (o := { dst := some 78, op := Op.call { callee := Callee.builtin Builtin.append, args := #[Operand.tmp 75, Operand.tmp 77], argTypes := #[25, 25] }, type := 25, pos := "event.go:88", after := #[{ on := 12, ground := Ground.data }, { on := 14, ground := Ground.data }], guard := none }) rfl (fun K hK => ?_) AllReadyH.nil
                refine step_append_raw rfl _ _ _ rfl w.heap.size 3 iI _ 1 8 Try.underlying25 hI0 hI1 hI2 hI3 rfl (by omega) _ xs.length (cellsI xs) rfl OZ.out _ 1 _ rfl RAW.out (by simp [Value.oneCell']) (by unfold maxLen; omega) (by omega) WZ.out ?_
                intro q8 k8 w8 own8 gr8 at8
                have ch8 : Hid (Chg vp.ownBlock.toList (wr.drew.alloc (.cells #[.int .i64 (i : Int)] 3)) w8) := Chg.of_grown gr8
                have nk8 := hide (NK8.out w8 ch8.out)
                have ca8 := (CA8.out w8 ch8.out).1
                have fa8 := (CA8.out w8 ch8.out).2
                clear gr8
                have own8 := hide own8
                have at8 : Hid ((Value.slice q8 (xs.length + 1) k8).ownBlock = vp.ownBlock ∨ (Value.slice q8 (xs.length + 1) k8).ownBlock = some (wr.drew.alloc (.cells #[.int .i64 (i : Int)] 3)).heap.size) := at8
                refine hK.out _ _ ?_ (fun hHeld => ?_)
                · exact nk8.out
                clear hK K
                refine wpAnyH_take (i := 16) (oi := { dst := some 79, op := Op.indexAddr 50 (Operand.tmp 63) (Operand.tmp 67), type := 0, pos := "event.go:88", after := #[{ on := 0, ground := Ground.data }, { on := 4, ground := Ground.data }, { on := 0, ground := Ground.phase }, { on := 1, ground := Ground.phase }, { on := 2, ground := Ground.phase }, { on := 3, ground := Ground.phase }, { on := 4, ground := Ground.phase }, { on := 5, ground := Ground.phase }, { on := 6, ground := Ground.phase }, { on := 7, ground := Ground.phase }, { on := 8, ground := Ground.phase }, { on := 9, ground := Ground.phase }, { on := 10, ground := Ground.phase }, { on := 11, ground := Ground.phase }, { on := 12, ground := Ground.phase }, { on := 13, ground := Ground.phase }, { on := 14, ground := Ground.phase }, { on := 15, ground := Ground.phase }], guard := none }) (v := ?_) rfl (by kernel_rfl) (by kernel_rfl) (by kernel_rfl) (fun _ _ _ h => h) (Or.inl ⟨by rfl, ?_⟩) (by assumption) ?_
                rotate_left
                · (intro w hSw; (try dsimp only at hSw); first | (go_simp; done) | (go_simp; with_reducible rfl))
                simp only [Act.put, List.setIfInBounds_toArray, List.set_cons_zero, List.set_cons_succ]
                refine wpAnyH_take (i := 17) (oi := { dst := some 80, op := Op.fieldAddr 57 (Operand.tmp 79) 1, type := 0, pos := "event.go:88", after := #[{ on := 16, ground := Ground.data }, { on := 0, ground := Ground.phase }, { on := 1, ground := Ground.phase }, { on := 2, ground := Ground.phase }, { on := 3, ground := Ground.phase }, { on := 4, ground := Ground.phase }, { on := 5, ground := Ground.phase }, { on := 6, ground := Ground.phase }, { on := 7, ground := Ground.phase }, { on := 8, ground := Ground.phase }, { on := 9, ground := Ground.phase }, { on := 10, ground := Ground.phase }, { on := 11, ground := Ground.phase }, { on := 12, ground := Ground.phase }, { on := 13, ground := Ground.phase }, { on := 14, ground := Ground.phase }, { on := 15, ground := Ground.phase }], guard := none }) (v := ?_) rfl (by kernel_rfl) (by kernel_rfl) (by kernel_rfl) (fun _ _ _ h => h) (Or.inl ⟨by rfl, ?_⟩) (by assumption) ?_
                rotate_left
                · (intro w hSw; (try dsimp only at hSw); first | (go_simp; done) | (go_simp; with_reducible rfl))
                simp only [Act.put, List.setIfInBounds_toArray, List.set_cons_zero, List.set_cons_succ]
                refine wpAnyH_ready (rs := [18]) (by kernel_rfl) (by simp) ?_
                refine AllReadyH.cons (i := 18) (o := { dst := none, op := Op.store 25 (Operand.tmp 80) (Operand.tmp 78), type := 0, pos := "event.go:88", after := #[{ on := 17, ground := Ground.data }, { on := 15, ground := Ground.data }, { on := 15, ground := Ground.chain }, { on := 0, ground := Ground.phase }, { on := 1, ground := Ground.phase }, { on := 2, ground := Ground.phase }, { on := 3, ground := Ground.phase }, { on := 4, ground := Ground.phase }, { on := 5, ground := Ground.phase }, { on := 6, ground := Ground.phase }, { on := 7, ground := Ground.phase }, { on := 8, ground := Ground.phase }, { on := 9, ground := Ground.phase }, { on := 10, ground := Ground.phase }, { on := 11, ground := Ground.phase }, { on := 12, ground := Ground.phase }, { on := 13, ground := Ground.phase }, { on := 14, ground := Ground.phase }, { on := 15, ground := Ground.phase }], guard := none }) rfl (fun K hK => ?_) AllReadyH.nil
                go_simp
                refine hK.out _ _ ?_ (fun hHeld => ?_)
                · exact (World.cell?_setCell_other _ _ _ _ (fun e => FNE.out (congrArg Addr.block e).symm)).trans nk8.out
                clear hK K
                refine wpAnyH_done (by kernel_rfl) ?_ _
                have O8 : Hid (KidsO w.heap.size w8 (.slice q8 (xs.length + 1) k8) (xs ++ [(i : Int)])) := by
                  show World.ownsRow _ _ _ _ _ _ _
                  rw [List.length_append, cellsI_app]
                  exact own8.out
                have R9 := hide (RZ.out.put (p := n * 2 + 1) HPL.out (by rw [HV.out]; exact ch8.out) O8.out ((by rw [HV.out]; exact at8.out : (Value.slice q8 (xs.length + 1) k8).ownBlock = (hAt V (n * 2 + 1)).ownBlock ∨ (Value.slice q8 (xs.length + 1) k8).ownBlock = some (wr.drew.alloc (.cells #[.int .i64 (i : Int)] 3)).heap.size).imp id (fun e b hb => by rw [e] at hb; cases hb; exact Nat.le_refl _)) (g := w.heap.size) rfl)
                have B9 : Hid (Below w.heap.size w (w8.setCell ⟨w.heap.size, n * 2 + 1, none⟩ (.slice q8 (xs.length + 1) k8))) := by
                  have h1 : Below w.heap.size w w8 := BZ.out.trans (ch8.out.below WZ.out (fun j hj => (FGE.out j (opt_mem.1 hj))))
                  exact ⟨h1.os, h1.tape, h1.output, by rw [World.size_setCell]; exact h1.size, fun j hj => (Below.heap_setCell _ _ _ _ (fun e => by have e2 : j = w.heap.size := e; omega)).trans (h1.block j hj)⟩
                clear own8 at8 O8 ca8 fa8
                go_wp2_with fail
                go_roundw
                case rel => exact ⟨i + 1, _, by omega, by go_num, by show RowsH _ _ _ _ _ _; rw [HX.out]; exact R9.out, B9⟩
                case measure => simp [intOf]; omega
          · have SK := hide (SKIP.out (fun q => by omega))
            clear SKIP TK LT
            generalize all[i].node = nd at *
            generalize all[i].cap = cp at *
            rw [ht] at ct
            clear ht
            go_wp2_with fail
            go_roundw
            case rel => exact ⟨i + 1, V, by omega, by go_num, SK, BX⟩
            case measure => simp [intOf]; omega
      · have SK := hide (SKIP.out (fun q => ht q.1))
        have tn : (all[i].typ.toList == k.toList) = false := by
          rw [txt_beq]; exact decide_eq_false ht
        clear SKIP TK LT ht
        generalize all[i].node = nd at *
        generalize all[i].cap = cp at *
        generalize all[i].typ = ty at *
        go_wp2_with fail
        go_roundw
        case rel => exact ⟨i + 1, V, by omega, by go_num, SK, BX⟩
        case measure => simp [intOf]; omega
    · obtain rfl : i = all.length := by omega
      rw [List.take_length] at RX
      go_wp2_with fail
      go_ret
      exact ⟨V, rfl, RX.out, BX.out⟩

end Go.Proofs.Ytmobcijigiacoaa
