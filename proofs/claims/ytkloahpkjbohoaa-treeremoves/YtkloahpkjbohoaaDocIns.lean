/- slices.Insert of one number into a row of the call's own. Conditions: rows of at most 2^47 bytes. -/
import Derived.Test.YtkloahpkjbohoaaDocV
import Derived.Shelf.Spec.SlicesInsert
import Derived.Shelf.Spec.SlicesInsertGrow
namespace Go.Proofs.Ytkloahpkjbohoaa
open Go.Shelf Go.RowKit

def insren : Go.Shelf.Ren := ⟨fun | 21 => 53 | 27 => 71 | 28 => 72 | 35 => 77 | 39 => 79 | n => n, fun | 0 => 0 | 3 => 3 | 4 => 4 | 22 => 43 | n => n, fun n => n⟩
theorem laysD21 : Go.Proofs.Lays2.n21 Try.prog insren := {
  mixed := by kernel_rfl
  f21 := Try.func53.trans (congrArg some (by kernel_rfl))
  f27 := Try.func71.trans (congrArg some (by kernel_rfl))
  f28 := Try.func72.trans (congrArg some (by kernel_rfl))
  f35 := Try.func77.trans (congrArg some (by kernel_rfl))
  f39 := Try.func79.trans (congrArg some (by kernel_rfl))
  t0 := Try.underlying0
  a0 := Try.isAgg0
  z0 := Try.sizeOf0
  v0 := Try.zeroValue0
  t3 := Try.underlying3
  a3 := Try.isAgg3
  z3 := Try.sizeOf3
  v3 := Try.zeroValue3
  t4 := Try.underlying4
  a4 := Try.isAgg4
  z4 := Try.sizeOf4
  v4 := Try.zeroValue4
  t22 := Try.underlying43
  a22 := Try.isAgg43
  z22 := Try.sizeOf43
  v22 := Try.zeroValue43
  i3 := by kernel_rfl }

/-- A piece of a row is overwritten. -/
def seg (cs : List Value) : Nat → List Value → List Value
  | _, [] => cs
  | o, v :: vs => seg (cs.set o v) (o + 1) vs
theorem seg_len : ∀ (vs : List Value) (cs : List Value) (o : Nat), (seg cs o vs).length = cs.length
  | [], _, _ => rfl
  | v :: vs, cs, o => by
    show (seg (cs.set o v) (o + 1) vs).length = _
    rw [seg_len vs, List.length_set]
theorem seg_is : ∀ (vs : List Value) (cs : List Value) (o : Nat), o + vs.length ≤ cs.length → seg cs o vs = cs.take o ++ vs ++ cs.drop (o + vs.length)
  | [], cs, o, _ => by show cs = _; simp
  | v :: vs, cs, o, h => by
    rw [List.length_cons] at h
    show seg (cs.set o v) (o + 1) vs = _
    rw [seg_is vs (cs.set o v) (o + 1) (by rw [List.length_set]; omega), List.take_set, List.take_succ_eq_append_getElem (by omega : o < cs.length), List.set_append_right _ _ (by rw [List.length_take]; omega), List.drop_set_of_lt (by omega)]
    rw [show o - (cs.take o).length = 0 by rw [List.length_take]; omega]
    simp [Nat.add_assoc, Nat.add_comm 1]
theorem NB.setCells {t : TypeId} {n : Nat} : ∀ (vs : List Value) (o : Nat) (w : World) (cs : List Value), NB w n cs t → NB (w.setCells n o vs) n (seg cs o vs) t
  | [], _, _, _, h => h
  | v :: vs, o, _, _, h => NB.setCells vs (o + 1) _ _ (h.set o v)
theorem Chg.setCells (n : Nat) : ∀ (vs : List Value) (o : Nat) (w : World), Chg [n] w (w.setCells n o vs)
  | [], _, w => Chg.refl _ w
  | v :: vs, o, w => (Chg.setB w n o v).trans (Chg.setCells n vs (o + 1) _)
/-- The whole block of an own row of numbers. -/
theorem KidsO.whole {base : Nat} {w : World} {v : Value} {ks : List Int} (h : KidsO base w v ks) {G : Nat} (hG : v.ownBlock = some G) : ∃ cap cs, v = .slice (some ⟨G, 0, none⟩) ks.length cap ∧ NB w G cs 3 ∧ cs.length = cap ∧ cs.take ks.length = cellsI ks ∧ ks.length ≤ cap ∧ cap ≤ maxLen ∧ base ≤ G := by
  rcases h.2 with ⟨rfl, _⟩ | ⟨g, cap, cur, rfl, hb, hg, h1, h2, h3, h4⟩
  · simp [Value.ownBlock] at hG
  · simp only [Value.ownBlock, Option.some.injEq] at hG
    subst hG
    exact ⟨cap, cur.toList, rfl, ⟨by rw [hg]⟩, by rw [Array.length_toList, h3, Nat.mul_one], by rw [← h4, Nat.mul_one], h1, h2, hb⟩
theorem KidsO.of_whole {base : Nat} {w : World} {G cap : Nat} {cs : List Value} {ks : List Int} (h : NB w G cs 3) (hl : cs.length = cap) (ht : cs.take ks.length = cellsI ks) (h1 : ks.length ≤ cap) (h2 : cap ≤ maxLen) (hb : base ≤ G) : KidsO base w (.slice (some ⟨G, 0, none⟩) ks.length cap) ks :=
  ⟨by rw [cellsI_len, Nat.mul_one], .inr ⟨G, cap, cs.toArray, rfl, hb, h.lies, h1, h2, by rw [List.size_toArray, hl, Nat.mul_one], by rw [Nat.mul_one]; exact ht⟩⟩
/-- A number is put at a place. -/
def insI (ks : List Int) (i : Nat) (x : Int) : List Int := ks.take i ++ x :: ks.drop i
theorem insI_len {ks : List Int} {i : Nat} (h : i ≤ ks.length) (x : Int) : (insI ks i x).length = ks.length + 1 := by
  unfold insI
  rw [List.length_append, List.length_cons, List.length_take, List.length_drop]
  omega

theorem seg_end {cs : List Value} {n : Nat} (h : n < cs.length) (x : Value) : (seg cs n [x]).take (n + 1) = cs.take n ++ [x] := by
  rw [seg_is [x] cs n (by simp; omega)]
  exact List.take_left' (by simp; omega)
theorem seg_two {cs D : List Value} {i : Nat} (h : i + 1 + D.length ≤ cs.length) (x : Value) : (seg (seg cs (i + 1) D) i [x]).take (i + 1 + D.length) = cs.take i ++ x :: D := by
  rw [seg_is [x] _ i (by rw [seg_len]; simp; omega), seg_is D cs (i + 1) h]
  have e1 : (cs.take (i + 1) ++ D ++ cs.drop (i + 1 + D.length)).take i = cs.take i := by
    rw [List.append_assoc, List.take_append_of_le_length (by rw [List.length_take]; omega), List.take_take, Nat.min_eq_left (by omega)]
  have e2 : (cs.take (i + 1) ++ D ++ cs.drop (i + 1 + D.length)).drop (i + [x].length) = D ++ cs.drop (i + 1 + D.length) := by
    rw [List.append_assoc]
    exact List.drop_left' (by rw [List.length_take]; simp; omega)
  rw [e1, e2, ← List.append_assoc]
  rw [List.take_left' (by simp; omega)]
  simp
theorem seg_two' {cs D : List Value} {i : Nat} (h : i + 1 + D.length ≤ cs.length) (x : Value) : (seg (seg cs i [x]) (i + 1) D).take (i + 1 + D.length) = cs.take i ++ x :: D := by
  rw [seg_is D _ (i + 1) (by rw [seg_len]; exact h), seg_end (by omega)]
  rw [List.take_left' (by simp; omega)]
  simp
theorem cellsI_ins (ks : List Int) (i : Nat) (x : Int) : cellsI (insI ks i x) = (cellsI ks).take i ++ .int .i64 x :: (cellsI ks).drop i := by
  unfold insI cellsI
  rw [List.map_append, List.map_cons, List.map_take, List.map_drop]
theorem NB.shape {w : World} {n : Nat} {cs : List Value} {t : TypeId} (h : NB w n cs t) : w.shape? n = some (t, cs.length) := by
  unfold World.shape?
  rw [h.lies]
  simp

theorem NB.newA (w : World) (A : Array Value) (t : TypeId) : NB (w.alloc (.cells A t)) w.heap.size A.toList t := ⟨by rw [Array.toArray_toList]; exact heap_alloc_new w _⟩
theorem zero_len (n : Nat) : (Builtin.zeroCells (Value.int .i64 0).cells n).toList.length = n := by rw [Array.length_toList, size_zeroCells]; show n * 1 = n; omega
/-- The grown row, of a number put behind all. -/
theorem grown_end {base : Nat} {w w' : World} {ks : List Int} {x : Int} {g : Nat} (hw : w' = w.drew.alloc (.cells ((cellsI ks ++ [Value.int .i64 x]).toArray ++ Builtin.zeroCells (Value.int .i64 0).cells (g - (ks.length + 1))) 3)) (h1 : ks.length + 1 ≤ g) (h2 : g ≤ maxLen) (hb : base ≤ w.heap.size) : KidsO base w' (.slice (some ⟨w.heap.size, 0, none⟩) (ks.length + 1) g) (insI ks ks.length x) := by
  have N1 := NB.newA w.drew ((cellsI ks ++ [Value.int .i64 x]).toArray ++ Builtin.zeroCells (Value.int .i64 0).cells (g - (ks.length + 1))) 3
  rw [← hw] at N1
  have IL := insI_len (Nat.le_refl ks.length) x
  have EL : ((cellsI ks ++ [Value.int .i64 x]).toArray ++ Builtin.zeroCells (Value.int .i64 0).cells (g - (ks.length + 1))).toList = (cellsI ks ++ [Value.int .i64 x]) ++ (Builtin.zeroCells (Value.int .i64 0).cells (g - (ks.length + 1))).toList := by simp
  rw [EL] at N1
  have := KidsO.of_whole (base := base) (G := w.heap.size) (cap := g) (ks := insI ks ks.length x) N1 (by rw [List.length_append, zero_len, List.length_append, cellsI_len]; simp; omega) (by
    rw [IL, List.take_left' (by rw [List.length_append, cellsI_len]; rfl), cellsI_ins, List.take_of_length_le (by rw [cellsI_len]; omega), List.drop_of_length_le (by rw [cellsI_len]; omega)]) (by rw [IL]; exact h1) h2 hb
  rw [IL] at this
  exact this
set_option maxHeartbeats 1000000 in
theorem insertI_any (base : Nat) (v : Value) (ks : List Int) (x : Int) (i vb : Nat) (w : World) (hown : KidsO base w v ks) (hx : NB w vb [.int .i64 x] 3) (hvb : v.ownBlock ≠ some vb) (hi : i ≤ ks.length) (hl : ks.length ≤ 400) (hbase : base ≤ w.heap.size) :
    Calls Try.prog 53 #[v, .int .i64 (i : Int), .slice (some ⟨vb, 0, none⟩) 1 1] w fun e w' => ∃ q c, e = .returned (.slice q (ks.length + 1) c) ∧ KidsO base w' (.slice q (ks.length + 1) c) (insI ks i x) ∧ Chg v.ownBlock.toList w w' ∧ ((Value.slice q (ks.length + 1) c).ownBlock = v.ownBlock ∨ ∀ k, (Value.slice q (ks.length + 1) c).ownBlock = some k → w.heap.size ≤ k) := by
  have hvs : ∀ j u, [Value.int .i64 x][j]? = some u → w.cell? ⟨vb, 0 + j, none⟩ = some u := fun j u hu => by rw [Nat.zero_add]; exact hx.cell j hu
  have h1v : ∀ u ∈ [Value.int .i64 x], u.oneCell' = true := fun u hu => by rw [List.mem_singleton.1 hu]; rfl
  have IL := insI_len hi x
  cases hG : v.ownBlock with
  | none =>
    rcases hown.2 with ⟨rfl, h0⟩ | ⟨g, cap, cur, rfl, _⟩
    · obtain rfl : ks = [] := List.eq_nil_of_length_eq_zero h0
      obtain rfl : i = 0 := by simpa using hi
      have C := Any2.slices_Insert_int_end_grow laysD21 none 0 0 vb 0 1 1 [] [.int .i64 x] w (by omega) (by omega) (by omega) (by omega) rfl rfl (fun _ => rfl) (fun a e => by cases e) hvs h1v
      refine C.mono fun e w' ⟨he, hw⟩ => ⟨_, _, he, grown_end (ks := []) hw (grownCap_ge w _ _ _) (grownCap_le_maxLen w _ _ _ (by unfold maxLen; simp)) hbase, ?_, .inr (fun k hk => by cases hk; exact Nat.le_refl _)⟩
      rw [hw]
      exact ((Chg.drew w).trans (Chg.alloc _ _)).nil
    · simp [Value.ownBlock] at hG
  | some G =>
    rw [hG] at hvb
    obtain ⟨cap, cs, rfl, NW, cl, ct, c1, c2, hb⟩ := hown.whole hG
    have nvb : vb ≠ G := fun e => hvb (by rw [e])
    have hcs : ∀ j u, (cellsI ks)[j]? = some u → w.cell? ⟨G, 0 + j, none⟩ = some u := fun j u hu => by
      rw [Nat.zero_add]
      refine NW.cell j ?_
      rw [← ct] at hu
      have hj := (List.getElem?_eq_some_iff.1 hu).1
      rw [List.length_take] at hj
      rwa [List.getElem?_take_of_lt (by omega)] at hu
    have hsome : ∀ j, j < cap → (w.cell? ⟨G, j, none⟩).isSome = true := fun j hj => by
      rw [NW.cell j (List.getElem?_eq_getElem (by omega))]; rfl
    have c63 : cap ≤ 9223372036854775807 := by unfold maxLen at c2; omega
    rcases Nat.lt_or_ge cap (ks.length + 1) with room | room
    · have gl := grownCap_le_maxLen w (ks.length + 1) cap 3 (by unfold maxLen; omega)
      have gg := grownCap_ge w (ks.length + 1) cap 3
      rcases Nat.lt_or_ge i ks.length with q | q
      · have C := Any2.slices_Insert_int_grow laysD21 G 0 ks.length cap i vb 0 1 1 (cellsI ks) [.int .i64 x] w q (by omega) c1 room (by omega) (cellsI_len ks) rfl hcs hvs (cellsI_one ks) h1v
        refine C.mono fun e w' ⟨he, hw⟩ => ⟨_, _, he, ?_, ?_, .inr (fun k hk => by cases hk; exact Nat.le_refl _)⟩
        · have dl : ((cellsI ks).drop i).length = ks.length - i := by rw [List.length_drop, cellsI_len]
          generalize hA : (((cellsI ks).take i).toArray ++ Builtin.zeroCells (Value.int .i64 0).cells (ks.length + 1 - i) ++ Builtin.zeroCells (Value.int .i64 0).cells (grownCap w (ks.length + 1) cap (insren.t 3) - (ks.length + 1))) = A at hw
          have EL : A.toList = (cellsI ks).take i ++ ((Builtin.zeroCells (Value.int .i64 0).cells (ks.length + 1 - i)).toList ++ (Builtin.zeroCells (Value.int .i64 0).cells (grownCap w (ks.length + 1) cap (insren.t 3) - (ks.length + 1))).toList) := by rw [← hA]; simp
          have gg' : ks.length + 1 ≤ grownCap w (ks.length + 1) cap (insren.t 3) := gg
          have AL : A.toList.length = grownCap w (ks.length + 1) cap (insren.t 3) := by
            rw [EL, List.length_append, List.length_append, zero_len, zero_len, List.length_take, cellsI_len]
            omega
          have N1 : NB w' w.heap.size (seg (seg A.toList i [.int .i64 x]) (i + 1) ((cellsI ks).drop i)) 3 := by
            rw [hw]
            exact NB.setCells _ _ _ _ (NB.drew (NB.setCells _ _ _ _ (NB.drew (NB.newA w A 3))))
          have T : (seg (seg A.toList i [.int .i64 x]) (i + 1) ((cellsI ks).drop i)).take (ks.length + 1) = cellsI (insI ks i x) := by
            have := seg_two' (cs := A.toList) (D := (cellsI ks).drop i) (i := i) (by rw [dl, AL]; omega) (.int .i64 x)
            rw [show i + 1 + ((cellsI ks).drop i).length = ks.length + 1 by rw [dl]; omega] at this
            rw [this, cellsI_ins, EL, List.take_left' (by rw [List.length_take, cellsI_len]; omega)]
          have := KidsO.of_whole (base := base) (G := w.heap.size) (cap := grownCap w (ks.length + 1) cap (insren.t 3)) (ks := insI ks i x) N1 (by rw [seg_len, seg_len]; exact AL) (by rw [IL]; exact T) (by rw [IL]; exact gg') gl hbase
          rw [IL] at this
          exact this
        · rw [hw]
          refine Chg.mono (S := [w.heap.size]) ?_ (fun k q r => by have := List.mem_singleton.1 q; omega)
          exact ((((Chg.alloc w _).nil.trans (Chg.drew _).nil).trans (Chg.setCells _ _ _ _)).trans (Chg.drew _).nil).trans (Chg.setCells _ _ _ _)
      · obtain rfl : i = ks.length := by omega
        have C := Any2.slices_Insert_int_end_grow laysD21 (some ⟨G, 0, none⟩) ks.length cap vb 0 1 1 (cellsI ks) [.int .i64 x] w (by omega) c1 room (by omega) (cellsI_len ks) rfl (fun e => by cases e) (fun a e j u hu => by cases e; have := hcs j u hu; rw [Nat.zero_add] at this; rw [show (⟨G, 0, none⟩ : Addr).add j = ⟨G, j, none⟩ by unfold Addr.add; split <;> simp_all]; exact this) hvs h1v
        refine C.mono fun e w' ⟨he, hw⟩ => ⟨_, _, he, grown_end hw gg gl hbase, ?_, .inr (fun k hk => by cases hk; exact Nat.le_refl _)⟩
        rw [hw]
        exact ((Chg.drew w).trans (Chg.alloc _ _)).nil
    · rcases Nat.lt_or_ge i ks.length with q | q
      · have C := Any2.slices_Insert_int_shift laysD21 G 0 ks.length cap i vb 0 1 1 (cellsI ks) [.int .i64 x] w q (by omega) room c63 nvb (cellsI_len ks) rfl hcs (fun j hj => by rw [Nat.zero_add]; exact hsome j (by omega)) (fun j _ => NW.free _) hvs (cellsI_one ks) h1v 3 3 1 cap hx.shape (by rw [NW.shape, cl]) (by omega) (hx.free _) (hx.free _)
        refine C.mono fun e w' ⟨he, hw⟩ => ⟨_, cap, he, ?_, ?_, .inl rfl⟩
        · have N1 : NB w' G (seg (seg cs (i + 1) ((cellsI ks).drop i)) i [.int .i64 x]) 3 := by
            rw [hw, Nat.zero_add, Nat.zero_add]
            exact NB.setCells _ _ _ _ (NB.setCells _ _ _ _ NW.drew)
          have dl : ((cellsI ks).drop i).length = ks.length - i := by rw [List.length_drop, cellsI_len]
          have T : (seg (seg cs (i + 1) ((cellsI ks).drop i)) i [.int .i64 x]).take (ks.length + 1) = cellsI (insI ks i x) := by
            have := seg_two (cs := cs) (D := (cellsI ks).drop i) (i := i) (by rw [dl]; omega) (.int .i64 x)
            rw [show i + 1 + ((cellsI ks).drop i).length = ks.length + 1 by rw [dl]; omega] at this
            rw [this, cellsI_ins, ← ct, List.take_take, Nat.min_eq_left hi]
          have := KidsO.of_whole (base := base) (cap := cap) (ks := insI ks i x) N1 (by rw [seg_len, seg_len]; exact cl) (by rw [IL]; exact T) (by rw [IL]; exact room) c2 hb
          rw [IL] at this
          exact this
        · rw [hw]
          exact ((Chg.drew w).nil.trans (Chg.setCells G _ _ _)).trans (Chg.setCells G _ _ _)
      · obtain rfl : i = ks.length := by omega
        have C := Any2.slices_Insert_int_end_room laysD21 G 0 ks.length cap vb 0 1 1 [.int .i64 x] w (by omega) room c63 rfl (fun j hj => by rw [Nat.zero_add]; exact hsome _ (by omega)) (fun j _ => NW.free _) hvs h1v
        refine C.mono fun e w' ⟨he, hw⟩ => ⟨_, cap, he, ?_, ?_, .inl rfl⟩
        · have N1 : NB w' G (seg cs ks.length [.int .i64 x]) 3 := by
            rw [hw, Nat.zero_add]
            exact NB.setCells _ _ _ _ NW
          have T : (seg cs ks.length [.int .i64 x]).take (ks.length + 1) = cellsI (insI ks ks.length x) := by
            rw [seg_end (by omega), cellsI_ins, ct, List.take_of_length_le (by rw [cellsI_len]; omega), List.drop_of_length_le (by rw [cellsI_len]; omega)]
          have := KidsO.of_whole (base := base) (cap := cap) (ks := insI ks ks.length x) N1 (by rw [seg_len]; exact cl) (by rw [IL]; exact T) (by rw [IL]; exact room) c2 hb
          rw [IL] at this
          exact this
        · rw [hw]
          exact Chg.setCells G _ _ _

end Go.Proofs.Ytkloahpkjbohoaa
