/- The program's downwards of layer 10. -/
import Derived.Test.YtlppocdhfeejkaaGreatDoorJvv13

namespace Go.Proofs.YtlppocdhfeejkaaGreatDoor
open Go.RowKit
theorem kidsI_at {l : List Nd} {m : Nat} (h : m < l.length) : kidsI l (m : Int) = l[m].kids := by unfold kidsI; rw [Int.toNat_natCast, nd_at h]
set_option maxHeartbeats 4000000 in
set_option maxRecDepth 100000 in
theorem down_any (w0 : World) (v : Value) (l : List Nd) (hv : NodesV w0 v l) : ∀ (f : Nat) (k : Int) (xs : List Int) (lv : Value) (w : World), Below w0.heap.size w0 w → KidsO w0.heap.size w lv xs → Sub l f k → xs.length + (downF l f k).length ≤ 17592186044416 →
    Calls Tryz.prog 94 #[lv, v, .int .i64 k] w fun e w' => ∃ v', e = .returned v' ∧ KidsO w0.heap.size w' v' (xs ++ downF l f k) ∧ Below w0.heap.size w0 w' := by
  intro f
  induction f with
  | zero => intro k xs lv w _ _ h _; exact h.elim
  | succ f ih =>
    intro k xs lv w hb hown hs hsz
    obtain ⟨m, rfl⟩ : ∃ m : Nat, k = (m : Int) := ⟨k.toNat, by have := hs.1.1; omega⟩
    have hm : m < l.length := by have := hs.1.2; omega
    have IH := hide ih
    have KD := hide hs.2
    rw [kidsI_at hm] at KD
    have e1 : downF l (f + 1) (m : Int) = (m : Int) :: l[m].kids.flatMap (downF l f) := by show _ :: (kidsI l (m : Int)).flatMap _ = _; rw [kidsI_at hm]
    rw [e1] at hsz ⊢
    rw [List.length_cons] at hsz
    clear ih hs e1
    obtain ⟨p, c, rfl, hv⟩ := hv
    rcases hv with hv | ⟨b, o, rfl, hv⟩
    · rw [hv] at hm; simp at hm
    obtain ⟨va, vk, N0⟩ := hv m hm
    have NW : Hid (∀ W, Below w0.heap.size w0 W → NodeAt W b (o + m * 5) l[m] va vk) := fun W hW => N0.below hW
    obtain ⟨pk, ck, rfl, hk⟩ := N0.ks
    have HK := hide hk
    have i0 : (0 : Int) ≤ (m : Int) := by omega
    have i1 : (m : Int) < (l.length : Int) := by omega
    obtain ⟨iI, hI0, hI1, hI2, hI3⟩ := info_parts infoI
    generalize hB : w0.heap.size = B at *
    have Bw : B ≤ w.heap.size := by have := hb.size; omega
    have OW := hide (World.ownsRow.alloc hown (.cells #[.int .i64 (m : Int)] 3))
    have RW := hide ((NB.new w [.int .i64 (m : Int)] 3).raw 1 1 rfl 1)
    have SZ := hide hsz
    have HB := hide hb
    have h1 : xs.length + 1 ≤ 17592186044416 := by omega
    have hBa : Hid (B ≤ (w.alloc (.cells #[.int .i64 (m : Int)] 3)).heap.size) := by show _ ≤ _; simp; omega
    have ksz : l[m].kids.length ≤ 17592186044416 := by
      have F : ∀ L : List Int, (∀ x ∈ L, Sub l f x) → L.length ≤ (L.flatMap (downF l f)).length := by
        intro L
        induction L with
        | nil => intro _; exact Nat.zero_le _
        | cons a t iht =>
          intro hL
          rw [List.flatMap_cons, List.length_append, List.length_cons]
          have := iht (fun x hx => hL x (List.mem_cons_of_mem _ hx))
          have := List.length_pos_of_mem (down_self (hL a (List.mem_cons_self ..)))
          omega
      have := F l[m].kids KD.out
      omega
    clear hv N0 hk hown hb hsz
    go_enter Tryz.func94, Tryz.ntmps94
    go_wp2_with (at_builtin; refine wpList_append_raw rfl _ _ _ rfl B 3 iI _ 1 8 Tryz.underlying41 hI0 hI1 hI2 hI3 rfl (by omega) _ xs.length (cellsI xs) rfl OW.out _ 1 _ rfl RW.out (by simp [Value.oneCell']) (by unfold maxLen; omega) (by omega) hBa.out ?_; intro q1 c1 w1 own1 gr1 at1; have B1 : Hid (Below B w0 w1) := HB.out.trans (((Chg.alloc w _).nil.trans (Chg.of_grown gr1)).below Bw (fun k hk => (OW.out.lt k (opt_mem.1 hk)).1)); have a4 := (NW.out w1 B1.out).kids)
    have K1 : Hid (KidsO B w1 (.slice q1 (xs.length + 1) c1) (xs ++ [(m : Int)])) := by
      have := own1
      show w1.ownsRow B _ 1 _ (xs ++ [(m : Int)]).length (cellsI (xs ++ [(m : Int)]))
      rw [List.length_append, cellsI_app]
      exact own1
    clear own1 gr1 at1 OW RW hBa HB
    go_loopw [0, 19] (fun sv iv wr => ∃ j : Nat, j ≤ l[m].kids.length ∧ iv = .int .i64 j ∧ Hid (KidsO B wr sv (xs ++ (m : Int) :: (l[m].kids.take j).flatMap (downF l f))) ∧ Hid (Below B w0 wr)) (fun _ iv _ => l[m].kids.length - (intOf iv).toNat)
    case atStart => exact ⟨0, Nat.zero_le _, rfl, by show KidsO _ _ _ _; rw [List.take_zero]; exact K1.out, B1.out⟩
    case round =>
      rename World => wr
      obtain ⟨j, hj, rfl, KO, BW⟩ := hrel
      clear a4 K1 B1
      by_cases h : j < l[m].kids.length
      · have j1 : (j : Int) < (l[m].kids.length : Int) := by omega
        have j0 : (0 : Int) ≤ (j : Int) := by omega
        obtain ⟨bk, ok, rfl, hk⟩ : ∃ bk ok, pk = some ⟨bk, ok, none⟩ ∧ ∀ i (h : i < l[m].kids.length), w0.cell? ⟨bk, ok + i, none⟩ = some (.int .i64 l[m].kids[i]) := by
          rcases HK.out with q | q
          · rw [q] at h; simp at h
          · exact q
        have a5 := cell_below (hk j h) (by rw [hB]; exact BW.out)
        have SK := KD.out l[m].kids[j] (List.getElem_mem _)
        have e2 : l[m].kids.take (j + 1) = l[m].kids.take j ++ [l[m].kids[j]] := List.take_succ_eq_append_getElem h
        have e3 : (l[m].kids.take (j + 1)).flatMap (downF l f) = (l[m].kids.take j).flatMap (downF l f) ++ downF l f l[m].kids[j] := by rw [e2, List.flatMap_append, List.flatMap_singleton]
        have L1 : ((l[m].kids.take (j + 1)).flatMap (downF l f)).length ≤ (l[m].kids.flatMap (downF l f)).length := by
          have : l[m].kids = l[m].kids.take (j + 1) ++ l[m].kids.drop (j + 1) := (List.take_append_drop _ _).symm
          have e4 := congrArg (fun L => (L.flatMap (downF l f)).length) this
          simp only [List.flatMap_append, List.length_append] at e4
          omega
        have HC := IH.out l[m].kids[j] _ _ wr BW.out KO.out SK (by
          rw [e3, List.length_append] at L1
          rw [List.length_append, List.length_cons]
          have := SZ.out
          omega)
        rw [List.append_assoc, List.cons_append, ← e3] at HC
        have HC := hide HC
        clear hk SK e2 e3 L1 KO
        generalize l[m].kids[j] = kc at *
        go_wp2_with fail
        refine HC.out.mono ?_
        rintro e w2 ⟨v2, rfl, k2, b2⟩
        go_wp2_with fail
        go_roundw
        case rel => exact ⟨j + 1, by omega, by go_num, k2, b2⟩
        case measure => simp [intOf]; omega
      · obtain rfl : j = l[m].kids.length := by omega
        go_wp2_with fail
        go_ret
        refine ⟨_, rfl, ?_, BW.out⟩
        have := KO.out
        rw [List.take_length] at this
        exact this

end Go.Proofs.YtlppocdhfeejkaaGreatDoor
