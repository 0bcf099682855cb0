/- The walks of stage 8's laws on what stands behind an address, and on ports: each returns true, and what lay in the world lies there still. Condition: the tables that the program's road names. -/
import Derived.Test.YtkllknfgojjphabDoorLinkLaws1
namespace Go.Proofs.YtkllknfgojjphabDoor
open Go.RowKit

theorem has_next {s : ByteArray} {k : Nat} (hk : k < s.size) (c : UInt8) : hasB (s.data.toList.take (k + 1)) c = (hasB (s.data.toList.take k) c || (s[k] == c)) := by
  unfold hasB
  rw [byteAt_take s k hk, ← byteAt_eq s k hk, Bool.eq_iff_iff, Bool.or_eq_true, List.contains_iff_mem, List.contains_iff_mem, List.mem_append, beq_iff_eq]
  constructor
  · rintro (h | h)
    · exact .inl h
    · exact .inr (List.mem_singleton.1 h).symm
  · rintro (h | h)
    · exact .inl h
    · exact .inr (by simp [h])
theorem has_all (s : ByteArray) (c : UInt8) : hasB (s.data.toList.take s.size) c = hasB s.data.toList c := by rw [List.take_of_length_le (by simp)]
theorem has_not {l : List UInt8} {c : UInt8} (h : hasB l c = false) : c ∉ l := fun m => by
  unfold hasB at h
  rw [List.contains_iff_mem.2 m] at h; cases h

theorem getD_pt (s : ByteArray) (k : Nat) (h : k < s.size) : s.data.toList.getD k 0 = s[k] := (byteAt_eq s k h).symm
theorem beq_pt (a c : UInt8) : ((a.toNat : Int) == (c.toNat : Int)) = (a == c) := by
  rw [Bool.eq_iff_iff, beq_iff_eq, beq_iff_eq]
  exact ⟨fun e => UInt8.toNat_inj.1 (by omega), fun e => by rw [e]⟩
theorem bne_pt (a c : UInt8) : ((a.toNat : Int) != (c.toNat : Int)) = !(a == c) := by
  unfold bne
  rw [beq_pt]
/-- What the loop of LinkPorts knows of the first places. -/
structure ShutTo (l : List UInt8) (k : Nat) (sb : Bool) : Prop where
  sh : sb = (decide (l = [] ∨ l.getD 0 0 ≠ 91) || hasB (l.take k) 93)
  no : ∀ c ∈ l.take k, c ≠ 64 ∧ c ≠ 47 ∧ c ≠ 63 ∧ c ≠ 35
  col : ∀ j, j < k → l.getD j 0 = 58 → (decide (l = [] ∨ l.getD 0 0 ≠ 91) || hasB (l.take (j + 1)) 93) = false
theorem shut_zero (l : List UInt8) : ShutTo l 0 (decide (l = [] ∨ l.getD 0 0 ≠ 91)) := ⟨by simp [hasB], by simp, fun j h => by omega⟩
theorem shut_next {s : ByteArray} {k : Nat} {sb : Bool} (h : ShutTo s.data.toList k sb) (hk : k < s.size) (h1 : ¬ s[k] = 64) (h2 : ¬ s[k] = 47) (h3 : ¬ s[k] = 63) (h4 : ¬ s[k] = 35) (h5 : s[k] = 58 → (sb || (s[k] == 93)) = false) : ShutTo s.data.toList (k + 1) (sb || (s[k] == 93)) := by
  refine ⟨by rw [has_next hk, h.sh, Bool.or_assoc], fun c hc => ?_, fun j hj e => ?_⟩
  · rw [byteAt_take s k hk, ← byteAt_eq s k hk] at hc
    rcases List.mem_append.1 hc with hc | hc
    · exact h.no c hc
    · obtain rfl := List.mem_singleton.1 hc
      exact ⟨h1, h2, h3, h4⟩
  · rcases Nat.lt_or_ge j k with q | q
    · exact h.col j q e
    · obtain rfl : j = k := by omega
      rw [getD_pt s j hk] at e
      have := h5 e
      rw [h.sh] at this
      rw [has_next hk, ← Bool.or_assoc]
      exact this
theorem shut_done {s : ByteArray} {sb : Bool} (h : ShutTo s.data.toList s.size sb) : Shut s.data.toList := by
  have ht : s.data.toList.take s.size = s.data.toList := List.take_of_length_le (by simp)
  have hl : s.data.toList.length = s.size := by simp
  have hn := h.no
  rw [ht] at hn
  refine ⟨fun m => (hn _ m).1 rfl, fun m => (hn _ m).2.1 rfl, fun m => (hn _ m).2.2.1 rfl, fun m => (hn _ m).2.2.2 rfl, fun a b e => ?_⟩
  have hal : a.length < s.size := by
    have := congrArg List.length e
    rw [List.length_append, List.length_cons] at this
    omega
  have hg : s.data.toList.getD a.length 0 = 58 := by rw [e]; simp [List.getD]
  have := h.col a.length hal hg
  rw [Bool.or_eq_false_iff] at this
  obtain ⟨t1, t2⟩ := this
  have t1 := of_decide_eq_false t1
  refine ⟨Classical.not_not.1 fun x => t1 (.inr x), fun m => ?_⟩
  have : (93 : UInt8) ∉ s.data.toList.take (a.length + 1) := has_not t2
  refine this ?_
  rw [e, show a ++ 58 :: b = (a ++ [58]) ++ b by simp, List.take_left' (by simp)]
  exact List.mem_append.2 (.inl m)
theorem val_dg {n d : Nat} (hn : n < 1000000) (hd : d < 10) : valStep n (dgB d) = 10 * n + d := by
  unfold valStep
  rw [if_pos hn, dgB_toNat hd]; omega
/-- The five digits of a port. -/
def portD (p : Nat) : List UInt8 := [dgB (p / 10000), dgB (p / 1000 % 10), dgB (p / 100 % 10), dgB (p / 10 % 10), dgB (p % 10)]
theorem port_cells {p : Nat} (hp : p ≤ 65535) : (#[Value.int IntKind.u8 (48 + (p : Int) / 10000), Value.int IntKind.u8 (48 + (p : Int) / 1000 % 10), Value.int IntKind.u8 (48 + (p : Int) / 100 % 10), Value.int IntKind.u8 (48 + (p : Int) / 10 % 10), Value.int IntKind.u8 (48 + (p : Int) % 10)] : Array Value) = ((portD p).map cellB).toArray := by
  have e : ∀ n m : Nat, n < 10 → (m : Int) = n → Value.int IntKind.u8 (48 + (m : Int)) = cellB (dgB n) := fun n m hn h => by unfold cellB; rw [dgB_toNat hn, h]; rfl
  have e1 := e (p / 10000) (p / 10000) (by omega) rfl
  have e2 := e (p / 1000 % 10) (p / 1000 % 10) (by omega) rfl
  have e3 := e (p / 100 % 10) (p / 100 % 10) (by omega) rfl
  have e4 := e (p / 10 % 10) (p / 10 % 10) (by omega) rfl
  have e5 := e (p % 10) (p % 10) (by omega) rfl
  have c1 : ((p / 10000 : Nat) : Int) = (p : Int) / 10000 := by omega
  have c2 : ((p / 1000 % 10 : Nat) : Int) = (p : Int) / 1000 % 10 := by omega
  have c3 : ((p / 100 % 10 : Nat) : Int) = (p : Int) / 100 % 10 := by omega
  have c4 : ((p / 10 % 10 : Nat) : Int) = (p : Int) / 10 % 10 := by omega
  have c5 : ((p % 10 : Nat) : Int) = (p : Int) % 10 := by omega
  rw [c1] at e1
  rw [c2] at e2
  rw [c3] at e3
  rw [c4] at e4
  rw [c5] at e5
  rw [e1, e2, e3, e4, e5]
  rfl
theorem port_conv {p : Nat} (hp : p ≤ 65535) (wc : World) : (convert 26 9 (.slice (some ⟨wc.heap.size, 0, none⟩) 5 5)).run Tryd.prog (wc.alloc (.cells #[Value.int IntKind.u8 (48 + (p : Int) / 10000), Value.int IntKind.u8 (48 + (p : Int) / 1000 % 10), Value.int IntKind.u8 (48 + (p : Int) / 100 % 10), Value.int IntKind.u8 (48 + (p : Int) / 10 % 10), Value.int IntKind.u8 (48 + (p : Int) % 10)] 5)) = .ok (.string (txt (portD p))) (wc.alloc (.cells #[Value.int IntKind.u8 (48 + (p : Int) / 10000), Value.int IntKind.u8 (48 + (p : Int) / 1000 % 10), Value.int IntKind.u8 (48 + (p : Int) / 100 % 10), Value.int IntKind.u8 (48 + (p : Int) / 10 % 10), Value.int IntKind.u8 (48 + (p : Int) % 10)] 5)) := by
  rw [port_cells hp]
  have hl : ((portD p).map fun c => (c.toNat : Int)).length = 5 := rfl
  have := run_convert_bytes_arg (P := Tryd.prog) (wc.alloc (.cells ((portD p).map cellB).toArray 5)) 26 5 byteTypes.sl byteTypes.el wc.heap.size 0 5 5 _ hl (fun i hi => by
    rw [Nat.zero_add, World.cell?_alloc_at _ _ _ _ rfl, List.getElem?_toArray, List.getElem?_map]
    have h5 : i < (portD p).length := hi
    rw [List.getElem?_eq_getElem h5]
    simp [cellB, h5]) 9 byteTypes.str
  rw [this, strOfNums_bytes]
theorem portD_ok {p : Nat} (h : p ≤ 65535) : portOk (portD p) = true ∧ ∀ c ∈ portD p, isDg c = true := by
  have hd : ∀ c ∈ portD p, isDg c = true := by
    intro c hc
    simp only [portD, List.mem_cons, List.not_mem_nil, or_false] at hc
    rcases hc with rfl | rfl | rfl | rfl | rfl
    all_goals exact (dgB_dg (by omega)).1
  refine ⟨?_, hd⟩
  have hv : valueL (portD p) = p := by
    have e1 : valStep 0 (dgB (p / 10000)) = p / 10000 := by rw [val_dg (by omega) (by omega)]; omega
    have e2 : valStep (p / 10000) (dgB (p / 1000 % 10)) = p / 1000 := by rw [val_dg (by omega) (by omega)]; omega
    have e3 : valStep (p / 1000) (dgB (p / 100 % 10)) = p / 100 := by rw [val_dg (by omega) (by omega)]; omega
    have e4 : valStep (p / 100) (dgB (p / 10 % 10)) = p / 10 := by rw [val_dg (by omega) (by omega)]; omega
    have e5 : valStep (p / 10) (dgB (p % 10)) = p := by rw [val_dg (by omega) (by omega)]; omega
    unfold valueL portD
    rw [List.foldl_cons, List.foldl_cons, List.foldl_cons, List.foldl_cons, List.foldl_cons, List.foldl_nil, e1, e2, e3, e4, e5]
  unfold portOk digitsL
  rw [hv, List.all_eq_true.2 hd, decide_eq_true h]
  rfl
set_option maxHeartbeats 2000000 in
set_option maxRecDepth 100000 in
theorem linkPorts_walk (s : ByteArray) (p : Nat) (hp : p ≤ 65535) (w : World) (hT : LinkTabs w) :
    Calls Tryd.prog 3 #[.string s, .int .u16 (p : Int)] w fun e w' => e = .returned (.bool true) ∧ Below w.heap.size w w' := by
  have HW := hide (lwakes_any w hT)
  by_cases h : 8192 < s.size
  · have HL := hide (fun w' => longK_yes s w' h)
    clear hT h
    go_enter Tryd.func3, Tryd.ntmps3
    go_wp2_with fail
    refine (HW.out).mono ?_
    rintro e v1 ⟨rfl, c1⟩
    have b1 := c1
    go_wp2_with fail
    refine (HL.out _).mono ?_
    rintro e uu ⟨rfl, rfl⟩
    go_wp2_with fail
    go_ret
    exact ⟨rfl, b1⟩
  have HL := hide (fun w' => longK_no s w' (by omega))
  have hs8 : s.size ≤ 8192 := by omega
  obtain ⟨P1, P2⟩ := portD_ok hp
  have Z := hide (shut_zero s.data.toList)
  have NX := hide (fun k sb h hk h1 h2 h3 h4 h5 => shut_next (s := s) (k := k) (sb := sb) h hk h1 h2 h3 h4 h5)
  have DN := hide (fun sb h => shut_done (s := s) (sb := sb) h)
  have HB := hide (fun c w => refBlank_any c w)
  have H1 := hide (fun w' (b : Below w.heap.size w w') => linkHost_any s w' (by omega) (hT.below b))
  have z7 : (⟨#[104, 116, 116, 112, 58, 47, 47]⟩ : ByteArray).size = 7 := rfl
  have z1 : (⟨#[58]⟩ : ByteArray).size = 1 := rfl
  have z2 : (⟨#[47]⟩ : ByteArray).size = 1 := rfl
  have H2 := hide (fun w' (b : Below w.heap.size w w') => linkAbs_any (⟨#[104, 116, 116, 112, 58, 47, 47]⟩ ++ s) w' (by rw [ByteArray.size_append]; omega) (hT.below b))
  have H3 := hide (fun (D : ByteArray) (hD : D.size = 5) w' (b : Below w.heap.size w w') => linkAbs_any (⟨#[104, 116, 116, 112, 58, 47, 47]⟩ ++ s ++ ⟨#[58]⟩ ++ D ++ ⟨#[47]⟩) w' (by rw [ByteArray.size_append, ByteArray.size_append, ByteArray.size_append, ByteArray.size_append]; omega) (hT.below b))
  have s0 : s.toList = s.data.toList := ByteArray.toList_eq s
  clear hT h
  have C0 : (s.size = 0 ∧ decide (s.data.toList = [] ∨ s.data.toList.getD 0 0 ≠ 91) = true) ∨ (∃ h : 0 < s.size, s[0] = 91 ∧ decide (s.data.toList = [] ∨ s.data.toList.getD 0 0 ≠ 91) = false) ∨ (∃ h : 0 < s.size, ¬ s[0] = 91 ∧ decide (s.data.toList = [] ∨ s.data.toList.getD 0 0 ≠ 91) = true) := by
    have hl : s.data.toList.length = s.size := by simp
    by_cases h0 : 0 < s.size
    · have hn : ¬ s.data.toList = [] := fun e => by rw [e] at hl; simp at hl; omega
      by_cases e : s[0] = 91
      · exact .inr (.inl ⟨h0, e, decide_eq_false (by rw [getD_pt s 0 h0]; simp [hn, e])⟩)
      · exact .inr (.inr ⟨h0, e, decide_eq_true (.inr (by rw [getD_pt s 0 h0]; exact e))⟩)
    · exact .inl ⟨by omega, decide_eq_true (.inl (List.eq_nil_of_length_eq_zero (by omega)))⟩
  generalize hsb : decide (s.data.toList = [] ∨ s.data.toList.getD 0 0 ≠ 91) = sb0 at *
  clear hsb
  go_enter Tryd.func3, Tryd.ntmps3
  go_wp2_with fail
  refine (HW.out).mono ?_
  rintro e v1 ⟨rfl, c1⟩
  have b1 := c1
  go_wp2_with fail
  refine (HL.out _).mono ?_
  rintro e uu ⟨rfl, rfl⟩
  clear HW HL
  go_upto_region 5 with fail
  go_cut [5] (fun t wx => t = .bool sb0 ∧ Below w.heap.size w wx)
  case first =>
    have hl : s.data.toList.length = s.size := by simp
    rcases C0 with ⟨e0, rfl⟩ | ⟨h0, e0, rfl⟩ | ⟨h0, e0, rfl⟩
    · have y0 : s.toList = [] := by rw [s0]; exact List.eq_nil_of_length_eq_zero (by omega)
      clear Z NX DN HB H1 H2 H3 s0 hl e0
      go_wp2_with fail
      go_meet
      case rel => exact ⟨rfl, b1⟩
    · have y0 : ¬ s.toList = [] := by rw [s0]; intro e; rw [e] at hl; simp at hl; omega
      have y1 : s.toList.isEmpty = false := by cases e : s.toList with
        | nil => exact absurd e y0
        | cons => rfl
      have y2 : ((s[0].toNat : Int) != 91) = false := by rw [e0]; rfl
      clear Z NX DN HB H1 H2 H3 s0 hl e0
      go_wp2_with fail
      go_meet
      case rel => exact ⟨rfl, b1⟩
    · have y0 : ¬ s.toList = [] := by rw [s0]; intro e; rw [e] at hl; simp at hl; omega
      have y1 : s.toList.isEmpty = false := by cases e : s.toList with
        | nil => exact absurd e y0
        | cons => rfl
      have y2 : ((s[0].toNat : Int) != 91) = true := (bne_pt s[0] 91).trans (by simp [e0])
      clear Z NX DN HB H1 H2 H3 s0 hl e0
      go_wp2_with fail
      go_meet
      case rel => exact ⟨rfl, b1⟩
  case rest =>
  obtain ⟨rfl, b2⟩ := hcut
  clear b1 C0 s0
  go_wp2_with fail
  go_loop [22, 5] (fun i t => ∃ (k : Nat) (sb : Bool), k ≤ s.size ∧ i = .int .i64 k ∧ t = .bool sb ∧ Hid (ShutTo s.data.toList k sb)) (fun i _ => s.size - (intOf i).toNat)
  case atStart => exact ⟨0, sb0, Nat.zero_le _, rfl, rfl, Z.out⟩
  case round =>
    obtain ⟨k, sb, hk, rfl, rfl, hd⟩ := hrel
    clear Z
    by_cases hlt : k < s.size
    · have i1 : (k : Int) < (s.size : Int) := by omega
      have HBk := hide (fun w => HB.out s[k] w)
      have NXk := NX.out k sb hd.out hlt
      have e93 := beq_pt s[k] 93
      rw [← e93] at NXk
      have x58 : s[k] = 58 → ((s[k].toNat : Int) == ((93 : UInt8).toNat : Int)) = false := fun e => by rw [e]; rfl
      clear hd NX DN HB H1 H2 H3 e93 P1 P2
      cases hbl : isBl s[k] with
      | true =>
        rw [hbl] at HBk
        clear hbl NXk x58
        cases sb
        all_goals
          go_wp2_with fail
          refine (HBk.out _).mono ?_
          rintro e uu ⟨rfl, rfl⟩
          go_wp2_with fail
          go_ret
          exact ⟨rfl, b2⟩
      | false =>
        rw [hbl] at HBk
        clear hbl
        by_cases h47 : s[k] = 47
        · have f47 : ((s[k].toNat : Int) == 47) = true := by rw [h47]; rfl
          clear NXk x58 h47 
          cases sb
          all_goals
            go_wp2_with fail
            refine (HBk.out _).mono ?_
            rintro e uu ⟨rfl, rfl⟩
            go_wp2_with fail
            go_ret
            exact ⟨rfl, b2⟩
        have f47 : ((s[k].toNat : Int) == 47) = false := ne_int (c := 47) h47
        by_cases h63 : s[k] = 63
        · have f63 : ((s[k].toNat : Int) == 63) = true := by rw [h63]; rfl
          clear NXk x58 h63 h47
          cases sb
          all_goals
            go_wp2_with fail
            refine (HBk.out _).mono ?_
            rintro e uu ⟨rfl, rfl⟩
            go_wp2_with fail
            go_ret
            exact ⟨rfl, b2⟩
        have f63 : ((s[k].toNat : Int) == 63) = false := ne_int (c := 63) h63
        by_cases h35 : s[k] = 35
        · have f35 : ((s[k].toNat : Int) == 35) = true := by rw [h35]; rfl
          clear NXk x58 h35 h47 h63
          cases sb
          all_goals
            go_wp2_with fail
            refine (HBk.out _).mono ?_
            rintro e uu ⟨rfl, rfl⟩
            go_wp2_with fail
            go_ret
            exact ⟨rfl, b2⟩
        have f35 : ((s[k].toNat : Int) == 35) = false := ne_int (c := 35) h35
        by_cases h64 : s[k] = 64
        · have f64 : ((s[k].toNat : Int) == 64) = true := by rw [h64]; rfl
          clear NXk x58 h64 h47 h63 h35
          cases sb
          all_goals
            go_wp2_with fail
            refine (HBk.out _).mono ?_
            rintro e uu ⟨rfl, rfl⟩
            go_wp2_with fail
            go_ret
            exact ⟨rfl, b2⟩
        have f64 : ((s[k].toNat : Int) == 64) = false := ne_int (c := 64) h64
        by_cases h58 : s[k] = 58
        · have f58 : ((s[k].toNat : Int) == 58) = true := by rw [h58]; rfl
          have g93 := x58 h58
          have f93 : ((s[k].toNat : Int) == 93) = false := g93
          cases sb with
          | true =>
            clear g93 NXk x58 h58 h47 h63 h35 h64
            go_wp2_with fail
            refine (HBk.out _).mono ?_
            rintro e uu ⟨rfl, rfl⟩
            go_wp2_with fail
            go_ret
            exact ⟨rfl, b2⟩
          | false =>
            have E := NXk h64 h47 h63 h35 (fun _ => by rw [g93]; rfl)
            rw [g93] at E
            replace E := hide E
            clear g93 NXk x58 h58 h47 h63 h35 h64
            go_wp2_with fail
            refine (HBk.out _).mono ?_
            rintro e uu ⟨rfl, rfl⟩
            go_wp2_with fail
            go_round
            case rel => exact ⟨k + 1, _, by omega, by go_num, rfl, E⟩
            case measure => simp [intOf]; omega
        · have f58 : ((s[k].toNat : Int) == 58) = false := ne_int (c := 58) h58
          have E := NXk h64 h47 h63 h35 (fun e => absurd e h58)
          replace E := hide E
          clear NXk x58 h58 h47 h63 h35 h64
          cases sb
          all_goals
            go_wp2_with fail
            refine (HBk.out _).mono ?_
            rintro e uu ⟨rfl, rfl⟩
            go_wp2_with fail
            go_round
            case rel => exact ⟨k + 1, _, by omega, by go_num, rfl, E⟩
            case measure => simp [intOf]; omega
    · obtain rfl : k = s.size := by omega
      have SH := DN.out sb hd.out
      have E1 := http_host SH
      have E2 := http_port SH P1 P2
      clear hd NX DN HB hlt
      have CV := hide (fun wc => port_conv hp wc)
      rw [show (⟨#[104, 116, 116, 112, 58, 47, 47]⟩ ++ s).data.toList = 104 :: 116 :: 116 :: 112 :: 58 :: 47 :: 47 :: s.data.toList by simp, E1] at H2
      have H4 := hide (H3.out (txt (portD p)) rfl)
      rw [show (⟨#[104, 116, 116, 112, 58, 47, 47]⟩ ++ s ++ ⟨#[58]⟩ ++ txt (portD p) ++ ⟨#[47]⟩).data.toList = 104 :: 116 :: 116 :: 112 :: 58 :: 47 :: 47 :: (s.data.toList ++ 58 :: (portD p ++ [47])) by simp [txt_data], E2] at H4
      have zD : (txt (portD p)).size = 5 := rfl
      have q1 := fun w => run_string_add_sum (P := Tryd.prog) w ⟨#[104, 116, 116, 112, 58, 47, 47]⟩ s (by omega)
      have q2 := fun w => run_string_add_sum (P := Tryd.prog) w (⟨#[104, 116, 116, 112, 58, 47, 47]⟩ ++ s) ⟨#[58]⟩ (by rw [ByteArray.size_append]; omega)
      have q3 := fun w => run_string_add_sum (P := Tryd.prog) w (⟨#[104, 116, 116, 112, 58, 47, 47]⟩ ++ s ++ ⟨#[58]⟩) (txt (portD p)) (by rw [ByteArray.size_append, ByteArray.size_append]; omega)
      have q4 := fun w => run_string_add_sum (P := Tryd.prog) w (⟨#[104, 116, 116, 112, 58, 47, 47]⟩ ++ s ++ ⟨#[58]⟩ ++ txt (portD p)) ⟨#[47]⟩ (by rw [ByteArray.size_append, ByteArray.size_append, ByteArray.size_append]; omega)
      clear H3 E1 E2 SH P1 P2 z7 z1 z2 zD
      generalize ⟨#[104, 116, 116, 112, 58, 47, 47]⟩ ++ s ++ ⟨#[58]⟩ ++ txt (portD p) ++ ⟨#[47]⟩ = x5 at *
      generalize ⟨#[104, 116, 116, 112, 58, 47, 47]⟩ ++ s ++ ⟨#[58]⟩ ++ txt (portD p) = x4 at *
      generalize ⟨#[104, 116, 116, 112, 58, 47, 47]⟩ ++ s ++ ⟨#[58]⟩ = x3 at *
      generalize ⟨#[104, 116, 116, 112, 58, 47, 47]⟩ ++ s = x2 at *
      generalize txt (portD p) = D at *
      generalize hostL s.data.toList = r at *
      go_wp2_with fail
      rw [CV.out]
      have b3 := chain b2 ((Below.refl wc.heap.size wc).alloc (Nat.le_refl _) (.cells #[Value.int IntKind.u8 (48 + (p : Int) / 10000), Value.int IntKind.u8 (48 + (p : Int) / 1000 % 10), Value.int IntKind.u8 (48 + (p : Int) / 100 % 10), Value.int IntKind.u8 (48 + (p : Int) / 10 % 10), Value.int IntKind.u8 (48 + (p : Int) % 10)] 5))
      clear CV
      go_wp2_with fail
      refine (H1.out _ (b3)).mono ?_
      rintro e v4 ⟨rfl, c4⟩
      have b4 := chain b3 c4
      go_wp2_with fail
      refine (H2.out _ (b4)).mono ?_
      rintro e v5 ⟨rfl, c5⟩
      have b5 := chain b4 c5
      go_wp2_with fail
      refine (H4.out _ (b5)).mono ?_
      rintro e v6 ⟨rfl, c6⟩
      have b6 := chain b5 c6
      go_wp2_with fail
      go_ret
      exact ⟨rfl, b6⟩


end Go.Proofs.YtkllknfgojjphabDoor
