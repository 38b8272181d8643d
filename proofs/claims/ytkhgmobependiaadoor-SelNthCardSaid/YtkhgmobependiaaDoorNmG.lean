/- The document's own Num at every string that begins with a minus: it is what num.Of tells. -/
import Derived.Test.YtkhgmobependiaaDoorNmSt
namespace Go.Proofs.YtkhgmobependiaaDoor.Nm
open Go Go.RowKit

set_option maxRecDepth 100000 in
set_option maxHeartbeats 4000000 in
theorem refNum_less (s : ByteArray) (w : World) (hs : s.size ≤ 4000000) (r : List UInt8) (hr : s.data.toList = 45 :: r) :
    Calls Tryd.prog 33 #[.string s] w fun e w' => e = .returned (.tuple #[.int .i64 (numN s.data.toList), .bool (numOk s.data.toList)]) ∧ w' = w := by
  have hbel : below s.data.toList = true := by rw [hr]; rfl
  have hbare : bare s.data.toList = s.data.toList.drop 1 := by rw [hr]; rfl
  obtain ⟨ho', hg0⟩ := at_cons (s := s) (o := 0) (d := []) (c := 45) (t := r) hr
  have ho : 1 ≤ s.size := by simp only [List.length_nil] at ho'; omega
  have hget0 := get_at s 0 ho
  rw [show s.get! 0 = 45 from hg0] at hget0
  clear hr hg0 ho'
  generalize hv : numN s.data.toList = v
  generalize hok : numOk s.data.toList = ok
  go_enter Tryd.func33, Tryd.ntmps33
  go_wp2
  go_loopw [4, 6, 7] (fun i n hh wr => ∃ (k : Nat) (x : Int) (h : Nat) (t : List UInt8), i = .int .i64 k ∧ n = .int .i64 x ∧ hh = .int .i64 h ∧ St1 s 1 k x h t ∧ wr = w) (fun i _ _ _ => s.size - (intOf i).toNat)
  case atStart => exact ⟨1, 0, 0, s.data.toList.drop 1, rfl, rfl, rfl, St1.start s 1, rfl⟩
  case round =>
    obtain ⟨k, x, h, t, rfl, rfl, rfl, S, rfl⟩ := hrel
    obtain ⟨x0, x1⟩ := S.bounds
    cases t with
    | nil =>
      have hke := S.nil ho
      have hki : (k : Int) = (s.size : Int) := by omega
      by_cases hh0 : h = 0
      · subst hh0
        have hno := S.none hbare
        have hv0 : numN s.data.toList = 0 := by simp [numN, hno]
        rw [hok] at hno
        rw [hv] at hv0
        subst hno hv0
        clear hok hv hbare hbel S
        go_wp2
        go_ret2
        exact ⟨rfl, rfl⟩
      · have hhi : ¬ (h : Int) = 0 := by omega
        obtain ⟨y1, y2⟩ := S.some hbare hh0
        rw [hbel] at y2
        simp only [if_true] at y2
        rw [hok] at y1
        rw [hv] at y2
        have hcap := refCap_any (-(x * 1000))
        rw [← y2] at hcap
        subst y1
        clear hok hv y2 hbare hbel S
        go_wp2_with fail
        refine (hcap _).mono ?_
        rintro e w' ⟨rfl, rfl⟩
        go_wp2
        go_ret2
        exact ⟨rfl, rfl⟩
    | cons c t =>
      obtain ⟨hlt, hgc⟩ := S.cons
      have hget := get_at s k hlt
      rw [hgc] at hget
      have hdc := digit_any c
      have hcl := c.toNat_lt
      clear hgc
      cases hc : dig c with
      | true =>
        rw [hc] at hdc
        have N := S.next hc
        have hle := S.le
        obtain ⟨c1, c2⟩ := dig_iff.1 hc
        rw [grow1_if x0 c1] at N
        by_cases hbig : 2147483647 < x * 10 + c.toNat - 48
        · rw [if_pos hbig] at N
          clear hok hv hbare hbel S hc
          go_wp2_with fail
          refine (hdc _).mono ?_
          rintro e w' ⟨rfl, rfl⟩
          go_wp2
          exact ⟨⟨k + 1, _, h + 1, t, by go_num, rfl, by go_num, N, by trivial⟩, by simp [intOf]; omega⟩
        · rw [if_neg hbig] at N
          clear hok hv hbare hbel S hc
          go_wp2_with fail
          refine (hdc _).mono ?_
          rintro e w' ⟨rfl, rfl⟩
          go_wp2
          exact ⟨⟨k + 1, _, h + 1, t, by go_num, rfl, by go_num, N, by trivial⟩, by simp [intOf]; omega⟩
      | false =>
        rw [hc] at hdc
        have hki : ¬ (k : Int) = (s.size : Int) := by omega
        by_cases hp : c = 46
        · subst hp
          have N := St2.start S
          clear S hc
          go_wp2_with fail
          refine (hdc _).mono ?_
          rintro e w' ⟨rfl, rfl⟩
          go_wp2
          go_loopw [4, 6, 8, 10] (fun i n bh un wr => ∃ (k : Nat) (y : Int) (b : Nat) (u : Int) (t : List UInt8), i = .int .i64 k ∧ n = .int .i64 y ∧ bh = .int .i64 b ∧ un = .int .i64 u ∧ St2 s 1 k y u b t ∧ wr = w') (fun i _ _ _ _ => s.size - (intOf i).toNat)
          case atStart => exact ⟨k + 1, _, 0, _, t, by go_num, rfl, rfl, rfl, N, rfl⟩
          case round =>
            clear N hdc hget hlt hki
            obtain ⟨k, y, b, u, t, rfl, rfl, rfl, rfl, S, rfl⟩ := hrel
            obtain ⟨y0, y1, u0, u1⟩ := S.bounds
            cases t with
            | nil =>
              have hke := S.nil ho
              have hki : (k : Int) = (s.size : Int) := by omega
              by_cases hb0 : b = 0
              · subst hb0
                have hno := S.none hbare
                have hv0 : numN s.data.toList = 0 := by simp [numN, hno]
                rw [hok] at hno
                rw [hv] at hv0
                subst hno hv0
                clear hok hv hbare hbel S
                go_wp2
                go_ret2
                exact ⟨rfl, rfl⟩
              · have hbi : ¬ (b : Int) = 0 := by omega
                obtain ⟨y1, y2⟩ := S.some hbare hb0
                rw [hbel] at y2
                simp only [if_true] at y2
                rw [hok] at y1
                rw [hv] at y2
                have hcap := refCap_any (-(y))
                rw [← y2] at hcap
                subst y1
                clear hok hv y2 hbare hbel S
                go_wp2_with fail
                refine (hcap _).mono ?_
                rintro e w' ⟨rfl, rfl⟩
                go_wp2
                go_ret2
                exact ⟨rfl, rfl⟩
            | cons c t =>
              obtain ⟨hlt, hgc⟩ := S.cons
              have hget := get_at s k hlt
              rw [hgc] at hget
              have hdc := digit_any c
              have hcl := c.toNat_lt
              clear hgc
              cases hc : dig c with
              | true =>
                rw [hc] at hdc
                have N := S.next hc
                have hle := S.le
                obtain ⟨m0, m1⟩ := S.mul hc
                obtain ⟨c1, c2⟩ := dig_iff.1 hc
                clear hok hv hbare hbel S hc
                go_wp2_with fail
                refine (hdc _).mono ?_
                rintro e w' ⟨rfl, rfl⟩
                go_wp2
                exact ⟨⟨k + 1, _, b + 1, _, t, by go_num, rfl, by go_num, rfl, N, by trivial⟩, by simp [intOf]; omega⟩
              | false =>
                rw [hc] at hdc
                have hki : ¬ (k : Int) = (s.size : Int) := by omega
                have hno := S.other hbare hc
                have hv0 : numN s.data.toList = 0 := by simp [numN, hno]
                rw [hok] at hno
                rw [hv] at hv0
                subst hno hv0
                clear hok hv hbare hbel S hc
                go_wp2_with fail
                refine (hdc _).mono ?_
                rintro e w' ⟨rfl, rfl⟩
                go_wp2
                go_ret2
                exact ⟨rfl, rfl⟩
        · have hpi : ¬ (c.toNat : Int) = 46 := fun h => hp (UInt8.toNat_inj.1 (show c.toNat = 46 by omega))
          have hno := S.other hbare hc hp
          have hv0 : numN s.data.toList = 0 := by simp [numN, hno]
          rw [hok] at hno
          rw [hv] at hv0
          subst hno hv0
          clear hok hv hbare hbel S hc hp
          go_wp2_with fail
          refine (hdc _).mono ?_
          rintro e w' ⟨rfl, rfl⟩
          go_wp2
          go_ret2
          exact ⟨rfl, rfl⟩

end Go.Proofs.YtkhgmobependiaaDoor.Nm

/- The document's own Num at every string that begins with a plus: it is what num.Of tells. -/
namespace Go.Proofs.YtkhgmobependiaaDoor.Nm
open Go Go.RowKit

set_option maxRecDepth 100000 in
set_option maxHeartbeats 4000000 in
theorem refNum_plus (s : ByteArray) (w : World) (hs : s.size ≤ 4000000) (r : List UInt8) (hr : s.data.toList = 43 :: r) :
    Calls Tryd.prog 33 #[.string s] w fun e w' => e = .returned (.tuple #[.int .i64 (numN s.data.toList), .bool (numOk s.data.toList)]) ∧ w' = w := by
  have hbel : below s.data.toList = false := by rw [hr]; rfl
  have hbare : bare s.data.toList = s.data.toList.drop 1 := by rw [hr]; rfl
  obtain ⟨ho', hg0⟩ := at_cons (s := s) (o := 0) (d := []) (c := 43) (t := r) hr
  have ho : 1 ≤ s.size := by simp only [List.length_nil] at ho'; omega
  have hget0 := get_at s 0 ho
  rw [show s.get! 0 = 43 from hg0] at hget0
  clear hr hg0 ho'
  generalize hv : numN s.data.toList = v
  generalize hok : numOk s.data.toList = ok
  go_enter Tryd.func33, Tryd.ntmps33
  go_wp2
  go_loopw [4, 6, 7] (fun i n hh wr => ∃ (k : Nat) (x : Int) (h : Nat) (t : List UInt8), i = .int .i64 k ∧ n = .int .i64 x ∧ hh = .int .i64 h ∧ St1 s 1 k x h t ∧ wr = w) (fun i _ _ _ => s.size - (intOf i).toNat)
  case atStart => exact ⟨1, 0, 0, s.data.toList.drop 1, rfl, rfl, rfl, St1.start s 1, rfl⟩
  case round =>
    obtain ⟨k, x, h, t, rfl, rfl, rfl, S, rfl⟩ := hrel
    obtain ⟨x0, x1⟩ := S.bounds
    cases t with
    | nil =>
      have hke := S.nil ho
      have hki : (k : Int) = (s.size : Int) := by omega
      by_cases hh0 : h = 0
      · subst hh0
        have hno := S.none hbare
        have hv0 : numN s.data.toList = 0 := by simp [numN, hno]
        rw [hok] at hno
        rw [hv] at hv0
        subst hno hv0
        clear hok hv hbare hbel S
        go_wp2
        go_ret2
        exact ⟨rfl, rfl⟩
      · have hhi : ¬ (h : Int) = 0 := by omega
        obtain ⟨y1, y2⟩ := S.some hbare hh0
        rw [hbel] at y2
        simp only [Bool.false_eq_true, if_false] at y2
        rw [hok] at y1
        rw [hv] at y2
        have hcap := refCap_any (x * 1000)
        rw [← y2] at hcap
        subst y1
        clear hok hv y2 hbare hbel S
        go_wp2_with fail
        refine (hcap _).mono ?_
        rintro e w' ⟨rfl, rfl⟩
        go_wp2
        go_ret2
        exact ⟨rfl, rfl⟩
    | cons c t =>
      obtain ⟨hlt, hgc⟩ := S.cons
      have hget := get_at s k hlt
      rw [hgc] at hget
      have hdc := digit_any c
      have hcl := c.toNat_lt
      clear hgc
      cases hc : dig c with
      | true =>
        rw [hc] at hdc
        have N := S.next hc
        have hle := S.le
        obtain ⟨c1, c2⟩ := dig_iff.1 hc
        rw [grow1_if x0 c1] at N
        by_cases hbig : 2147483647 < x * 10 + c.toNat - 48
        · rw [if_pos hbig] at N
          clear hok hv hbare hbel S hc
          go_wp2_with fail
          refine (hdc _).mono ?_
          rintro e w' ⟨rfl, rfl⟩
          go_wp2
          exact ⟨⟨k + 1, _, h + 1, t, by go_num, rfl, by go_num, N, by trivial⟩, by simp [intOf]; omega⟩
        · rw [if_neg hbig] at N
          clear hok hv hbare hbel S hc
          go_wp2_with fail
          refine (hdc _).mono ?_
          rintro e w' ⟨rfl, rfl⟩
          go_wp2
          exact ⟨⟨k + 1, _, h + 1, t, by go_num, rfl, by go_num, N, by trivial⟩, by simp [intOf]; omega⟩
      | false =>
        rw [hc] at hdc
        have hki : ¬ (k : Int) = (s.size : Int) := by omega
        by_cases hp : c = 46
        · subst hp
          have N := St2.start S
          clear S hc
          go_wp2_with fail
          refine (hdc _).mono ?_
          rintro e w' ⟨rfl, rfl⟩
          go_wp2
          go_loopw [4, 6, 8, 10] (fun i n bh un wr => ∃ (k : Nat) (y : Int) (b : Nat) (u : Int) (t : List UInt8), i = .int .i64 k ∧ n = .int .i64 y ∧ bh = .int .i64 b ∧ un = .int .i64 u ∧ St2 s 1 k y u b t ∧ wr = w') (fun i _ _ _ _ => s.size - (intOf i).toNat)
          case atStart => exact ⟨k + 1, _, 0, _, t, by go_num, rfl, rfl, rfl, N, rfl⟩
          case round =>
            clear N hdc hget hlt hki
            obtain ⟨k, y, b, u, t, rfl, rfl, rfl, rfl, S, rfl⟩ := hrel
            obtain ⟨y0, y1, u0, u1⟩ := S.bounds
            cases t with
            | nil =>
              have hke := S.nil ho
              have hki : (k : Int) = (s.size : Int) := by omega
              by_cases hb0 : b = 0
              · subst hb0
                have hno := S.none hbare
                have hv0 : numN s.data.toList = 0 := by simp [numN, hno]
                rw [hok] at hno
                rw [hv] at hv0
                subst hno hv0
                clear hok hv hbare hbel S
                go_wp2
                go_ret2
                exact ⟨rfl, rfl⟩
              · have hbi : ¬ (b : Int) = 0 := by omega
                obtain ⟨y1, y2⟩ := S.some hbare hb0
                rw [hbel] at y2
                simp only [Bool.false_eq_true, if_false] at y2
                rw [hok] at y1
                rw [hv] at y2
                have hcap := refCap_any (y)
                rw [← y2] at hcap
                subst y1
                clear hok hv y2 hbare hbel S
                go_wp2_with fail
                refine (hcap _).mono ?_
                rintro e w' ⟨rfl, rfl⟩
                go_wp2
                go_ret2
                exact ⟨rfl, rfl⟩
            | cons c t =>
              obtain ⟨hlt, hgc⟩ := S.cons
              have hget := get_at s k hlt
              rw [hgc] at hget
              have hdc := digit_any c
              have hcl := c.toNat_lt
              clear hgc
              cases hc : dig c with
              | true =>
                rw [hc] at hdc
                have N := S.next hc
                have hle := S.le
                obtain ⟨m0, m1⟩ := S.mul hc
                obtain ⟨c1, c2⟩ := dig_iff.1 hc
                clear hok hv hbare hbel S hc
                go_wp2_with fail
                refine (hdc _).mono ?_
                rintro e w' ⟨rfl, rfl⟩
                go_wp2
                exact ⟨⟨k + 1, _, b + 1, _, t, by go_num, rfl, by go_num, rfl, N, by trivial⟩, by simp [intOf]; omega⟩
              | false =>
                rw [hc] at hdc
                have hki : ¬ (k : Int) = (s.size : Int) := by omega
                have hno := S.other hbare hc
                have hv0 : numN s.data.toList = 0 := by simp [numN, hno]
                rw [hok] at hno
                rw [hv] at hv0
                subst hno hv0
                clear hok hv hbare hbel S hc
                go_wp2_with fail
                refine (hdc _).mono ?_
                rintro e w' ⟨rfl, rfl⟩
                go_wp2
                go_ret2
                exact ⟨rfl, rfl⟩
        · have hpi : ¬ (c.toNat : Int) = 46 := fun h => hp (UInt8.toNat_inj.1 (show c.toNat = 46 by omega))
          have hno := S.other hbare hc hp
          have hv0 : numN s.data.toList = 0 := by simp [numN, hno]
          rw [hok] at hno
          rw [hv] at hv0
          subst hno hv0
          clear hok hv hbare hbel S hc hp
          go_wp2_with fail
          refine (hdc _).mono ?_
          rintro e w' ⟨rfl, rfl⟩
          go_wp2
          go_ret2
          exact ⟨rfl, rfl⟩

end Go.Proofs.YtkhgmobependiaaDoor.Nm

/- The document's own Num at every string that begins with no sign: it is what num.Of tells. -/
namespace Go.Proofs.YtkhgmobependiaaDoor.Nm
open Go Go.RowKit

set_option maxRecDepth 100000 in
set_option maxHeartbeats 4000000 in
theorem refNum_bare (s : ByteArray) (w : World) (hs : s.size ≤ 4000000) (c0 : UInt8) (r : List UInt8) (hr : s.data.toList = c0 :: r) (hp : c0 ≠ 43) (hm : c0 ≠ 45) :
    Calls Tryd.prog 33 #[.string s] w fun e w' => e = .returned (.tuple #[.int .i64 (numN s.data.toList), .bool (numOk s.data.toList)]) ∧ w' = w := by
  have hbel : below s.data.toList = false := by rw [hr]; simp [below, hm]
  have hbare : bare s.data.toList = s.data.toList.drop 0 := by unfold bare lessOne; rw [hbel, hr]; simp [hp]
  obtain ⟨ho', hg0⟩ := at_cons (s := s) (o := 0) (d := []) (c := c0) (t := r) hr
  have ho1 : 1 ≤ s.size := by simp only [List.length_nil] at ho'; omega
  have ho : 0 ≤ s.size := Nat.zero_le _
  have hget0 := get_at s 0 ho1
  rw [show s.get! 0 = c0 from hg0] at hget0
  have hpi : ((c0.toNat : Int) == 43) = false := beq_eq_false_iff_ne.2 fun h => hp (UInt8.toNat_inj.1 (show c0.toNat = 43 by omega))
  have hmi : ((c0.toNat : Int) == 45) = false := beq_eq_false_iff_ne.2 fun h => hm (UInt8.toNat_inj.1 (show c0.toNat = 45 by omega))
  clear hr hg0 ho' hp hm
  generalize hv : numN s.data.toList = v
  generalize hok : numOk s.data.toList = ok
  go_enter Tryd.func33, Tryd.ntmps33
  go_wp2
  go_loopw [4, 6, 7] (fun i n hh wr => ∃ (k : Nat) (x : Int) (h : Nat) (t : List UInt8), i = .int .i64 k ∧ n = .int .i64 x ∧ hh = .int .i64 h ∧ St1 s 0 k x h t ∧ wr = w) (fun i _ _ _ => s.size - (intOf i).toNat)
  case atStart => exact ⟨0, 0, 0, s.data.toList.drop 0, rfl, rfl, rfl, St1.start s 0, rfl⟩
  case round =>
    obtain ⟨k, x, h, t, rfl, rfl, rfl, S, rfl⟩ := hrel
    obtain ⟨x0, x1⟩ := S.bounds
    cases t with
    | nil =>
      have hke := S.nil ho
      have hki : (k : Int) = (s.size : Int) := by omega
      by_cases hh0 : h = 0
      · subst hh0
        have hno := S.none hbare
        have hv0 : numN s.data.toList = 0 := by simp [numN, hno]
        rw [hok] at hno
        rw [hv] at hv0
        subst hno hv0
        clear hok hv hbare hbel S
        go_wp2
        go_ret2
        exact ⟨rfl, rfl⟩
      · have hhi : ¬ (h : Int) = 0 := by omega
        obtain ⟨y1, y2⟩ := S.some hbare hh0
        rw [hbel] at y2
        simp only [Bool.false_eq_true, if_false] at y2
        rw [hok] at y1
        rw [hv] at y2
        have hcap := refCap_any (x * 1000)
        rw [← y2] at hcap
        subst y1
        clear hok hv y2 hbare hbel S
        go_wp2_with fail
        refine (hcap _).mono ?_
        rintro e w' ⟨rfl, rfl⟩
        go_wp2
        go_ret2
        exact ⟨rfl, rfl⟩
    | cons c t =>
      obtain ⟨hlt, hgc⟩ := S.cons
      have hget := get_at s k hlt
      rw [hgc] at hget
      have hdc := digit_any c
      have hcl := c.toNat_lt
      clear hgc
      cases hc : dig c with
      | true =>
        rw [hc] at hdc
        have N := S.next hc
        have hle := S.le
        obtain ⟨c1, c2⟩ := dig_iff.1 hc
        rw [grow1_if x0 c1] at N
        by_cases hbig : 2147483647 < x * 10 + c.toNat - 48
        · rw [if_pos hbig] at N
          clear hok hv hbare hbel S hc
          go_wp2_with fail
          refine (hdc _).mono ?_
          rintro e w' ⟨rfl, rfl⟩
          go_wp2
          exact ⟨⟨k + 1, _, h + 1, t, by go_num, rfl, by go_num, N, by trivial⟩, by simp [intOf]; omega⟩
        · rw [if_neg hbig] at N
          clear hok hv hbare hbel S hc
          go_wp2_with fail
          refine (hdc _).mono ?_
          rintro e w' ⟨rfl, rfl⟩
          go_wp2
          exact ⟨⟨k + 1, _, h + 1, t, by go_num, rfl, by go_num, N, by trivial⟩, by simp [intOf]; omega⟩
      | false =>
        rw [hc] at hdc
        have hki : ¬ (k : Int) = (s.size : Int) := by omega
        by_cases hp : c = 46
        · subst hp
          have N := St2.start S
          clear S hc
          go_wp2_with fail
          refine (hdc _).mono ?_
          rintro e w' ⟨rfl, rfl⟩
          go_wp2
          go_loopw [4, 6, 8, 10] (fun i n bh un wr => ∃ (k : Nat) (y : Int) (b : Nat) (u : Int) (t : List UInt8), i = .int .i64 k ∧ n = .int .i64 y ∧ bh = .int .i64 b ∧ un = .int .i64 u ∧ St2 s 0 k y u b t ∧ wr = w') (fun i _ _ _ _ => s.size - (intOf i).toNat)
          case atStart => exact ⟨k + 1, _, 0, _, t, by go_num, rfl, rfl, rfl, N, rfl⟩
          case round =>
            clear N hdc hget hlt hki
            obtain ⟨k, y, b, u, t, rfl, rfl, rfl, rfl, S, rfl⟩ := hrel
            obtain ⟨y0, y1, u0, u1⟩ := S.bounds
            cases t with
            | nil =>
              have hke := S.nil ho
              have hki : (k : Int) = (s.size : Int) := by omega
              by_cases hb0 : b = 0
              · subst hb0
                have hno := S.none hbare
                have hv0 : numN s.data.toList = 0 := by simp [numN, hno]
                rw [hok] at hno
                rw [hv] at hv0
                subst hno hv0
                clear hok hv hbare hbel S
                go_wp2
                go_ret2
                exact ⟨rfl, rfl⟩
              · have hbi : ¬ (b : Int) = 0 := by omega
                obtain ⟨y1, y2⟩ := S.some hbare hb0
                rw [hbel] at y2
                simp only [Bool.false_eq_true, if_false] at y2
                rw [hok] at y1
                rw [hv] at y2
                have hcap := refCap_any (y)
                rw [← y2] at hcap
                subst y1
                clear hok hv y2 hbare hbel S
                go_wp2_with fail
                refine (hcap _).mono ?_
                rintro e w' ⟨rfl, rfl⟩
                go_wp2
                go_ret2
                exact ⟨rfl, rfl⟩
            | cons c t =>
              obtain ⟨hlt, hgc⟩ := S.cons
              have hget := get_at s k hlt
              rw [hgc] at hget
              have hdc := digit_any c
              have hcl := c.toNat_lt
              clear hgc
              cases hc : dig c with
              | true =>
                rw [hc] at hdc
                have N := S.next hc
                have hle := S.le
                obtain ⟨m0, m1⟩ := S.mul hc
                obtain ⟨c1, c2⟩ := dig_iff.1 hc
                clear hok hv hbare hbel S hc
                go_wp2_with fail
                refine (hdc _).mono ?_
                rintro e w' ⟨rfl, rfl⟩
                go_wp2
                exact ⟨⟨k + 1, _, b + 1, _, t, by go_num, rfl, by go_num, rfl, N, by trivial⟩, by simp [intOf]; omega⟩
              | false =>
                rw [hc] at hdc
                have hki : ¬ (k : Int) = (s.size : Int) := by omega
                have hno := S.other hbare hc
                have hv0 : numN s.data.toList = 0 := by simp [numN, hno]
                rw [hok] at hno
                rw [hv] at hv0
                subst hno hv0
                clear hok hv hbare hbel S hc
                go_wp2_with fail
                refine (hdc _).mono ?_
                rintro e w' ⟨rfl, rfl⟩
                go_wp2
                go_ret2
                exact ⟨rfl, rfl⟩
        · have hpi : ¬ (c.toNat : Int) = 46 := fun h => hp (UInt8.toNat_inj.1 (show c.toNat = 46 by omega))
          have hno := S.other hbare hc hp
          have hv0 : numN s.data.toList = 0 := by simp [numN, hno]
          rw [hok] at hno
          rw [hv] at hv0
          subst hno hv0
          clear hok hv hbare hbel S hc hp
          go_wp2_with fail
          refine (hdc _).mono ?_
          rintro e w' ⟨rfl, rfl⟩
          go_wp2
          go_ret2
          exact ⟨rfl, rfl⟩

end Go.Proofs.YtkhgmobependiaaDoor.Nm

/- The document's own Num at every string of no bytes: it is what num.Of tells. -/
namespace Go.Proofs.YtkhgmobependiaaDoor.Nm
open Go Go.RowKit

set_option maxRecDepth 100000 in
set_option maxHeartbeats 4000000 in
theorem refNum_none (s : ByteArray) (w : World) (_hs : s.size ≤ 4000000) (hr : s.data.toList = []) :
    Calls Tryd.prog 33 #[.string s] w fun e w' => e = .returned (.tuple #[.int .i64 (numN s.data.toList), .bool (numOk s.data.toList)]) ∧ w' = w := by
  have hbel : below s.data.toList = false := by rw [hr]; rfl
  have hbare : bare s.data.toList = s.data.toList.drop 0 := by rw [hr]; rfl
  have ho : 0 ≤ s.size := Nat.zero_le _
  have hz : s.size = 0 := by rw [← len_list, hr]; rfl
  have hzi : (s.size : Int) = 0 := by omega
  clear hr
  generalize hv : numN s.data.toList = v
  generalize hok : numOk s.data.toList = ok
  go_enter Tryd.func33, Tryd.ntmps33
  go_wp2
  go_loopw [4, 6, 7] (fun i n hh wr => ∃ (k : Nat) (x : Int) (h : Nat) (t : List UInt8), i = .int .i64 k ∧ n = .int .i64 x ∧ hh = .int .i64 h ∧ St1 s 0 k x h t ∧ wr = w) (fun i _ _ _ => s.size - (intOf i).toNat)
  case atStart => exact ⟨0, 0, 0, s.data.toList.drop 0, rfl, rfl, rfl, St1.start s 0, rfl⟩
  case round =>
    obtain ⟨k, x, h, t, rfl, rfl, rfl, S, rfl⟩ := hrel
    obtain ⟨x0, x1⟩ := S.bounds
    cases t with
    | nil =>
      have hke := S.nil ho
      have hki : (k : Int) = (s.size : Int) := by omega
      by_cases hh0 : h = 0
      · subst hh0
        have hno := S.none hbare
        have hv0 : numN s.data.toList = 0 := by simp [numN, hno]
        rw [hok] at hno
        rw [hv] at hv0
        subst hno hv0
        clear hok hv hbare hbel S
        go_wp2
        go_ret2
        exact ⟨rfl, rfl⟩
      · have hhi : ¬ (h : Int) = 0 := by omega
        obtain ⟨y1, y2⟩ := S.some hbare hh0
        rw [hbel] at y2
        simp only [Bool.false_eq_true, if_false] at y2
        rw [hok] at y1
        rw [hv] at y2
        have hcap := refCap_any (x * 1000)
        rw [← y2] at hcap
        subst y1
        clear hok hv y2 hbare hbel S
        go_wp2_with fail
        refine (hcap _).mono ?_
        rintro e w' ⟨rfl, rfl⟩
        go_wp2
        go_ret2
        exact ⟨rfl, rfl⟩
    | cons c t =>
      obtain ⟨hlt, _⟩ := S.cons
      omega

end Go.Proofs.YtkhgmobependiaaDoor.Nm

/- The document's own Num at every string that is not too long. -/
namespace Go.Proofs.YtkhgmobependiaaDoor.Nm
open Go Go.RowKit

theorem refNum_long (s : ByteArray) (w : World) (hs : s.size ≤ 4000000) :
    Calls Tryd.prog 33 #[.string s] w fun e w' => e = .returned (.tuple #[.int .i64 (numN s.data.toList), .bool (numOk s.data.toList)]) ∧ w' = w := by
  cases h : s.data.toList with
  | nil => rw [← h]; exact refNum_none s w hs h
  | cons c r =>
    by_cases h1 : c = 45
    · subst h1
      rw [← h]
      exact refNum_less s w hs r h
    · by_cases h2 : c = 43
      · subst h2
        rw [← h]
        exact refNum_plus s w hs r h
      · rw [← h]
        exact refNum_bare s w hs c r h h2 h1

end Go.Proofs.YtkhgmobependiaaDoor.Nm
