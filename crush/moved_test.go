package crush_test

import (
	"math"
	"slices"
	"testing"

	"strawloft/api"
	"strawloft/crush"
)

// firstKeys is the keys from 0 to n - 1.
func firstKeys(n int) []uint64 {
	var keys []uint64
	for key := range uint64(n) {
		keys = append(keys, key)
	}
	return keys
}

// place is the spots of a key, which must be there.
func place(t *testing.T, key uint64, hosts []api.Host, many int) []api.Spot {
	t.Helper()
	spots, err := crush.Place(key, hosts, many)
	if len(spots) != many || err != api.OK {
		t.Fatalf("Place(%#x, %v, %d) is %v, %d", key, hosts, many, spots, err)
	}
	return spots
}

// slowMoved compares the placements for a and b spot by spot.
func slowMoved(t *testing.T, keys []uint64, a, b []api.Host, many int) int {
	t.Helper()
	moved := 0
	for _, key := range keys {
		was := place(t, key, a, many)
		for _, spot := range place(t, key, b, many) {
			stays := false
			for _, old := range was {
				if old.Host == spot.Host && old.Device == spot.Device {
					stays = true
				}
			}
			if !stays {
				moved++
			}
		}
	}
	return moved
}

// placedOn counts the keys that have a spot on a host.
func placedOn(t *testing.T, keys []uint64, hosts []api.Host, many, id int) int {
	t.Helper()
	n := 0
	for _, key := range keys {
		for _, spot := range place(t, key, hosts, many) {
			if spot.Host == id {
				n++
			}
		}
	}
	return n
}

// changed is hosts of which one has other devices.
func changed(hosts []api.Host, at int, devices ...api.Weighted) []api.Host {
	hosts = slices.Clone(hosts)
	hosts[at].Devices = devices
	return hosts
}

// checkMoved checks how many spots moved, without an error.
func checkMoved(t *testing.T, keys []uint64, a, b []api.Host, many, want int) {
	t.Helper()
	if got, err := crush.Moved(keys, a, b, many); got != want || err != api.OK {
		t.Errorf("Moved of %d keys from %v to %v with %d is %d, %d, want %d, OK", len(keys), a, b, many, got, err, want)
	}
}

// checkNotMoved checks that Moved has no number, but an error.
func checkNotMoved(t *testing.T, keys []uint64, a, b []api.Host, many int, want api.Errno) {
	t.Helper()
	if got, err := crush.Moved(keys, a, b, many); got != 0 || err != want {
		t.Errorf("Moved of %d keys from %v to %v with %d is %d, %d, want 0, %d", len(keys), a, b, many, got, err, want)
	}
}

// checkBothWays checks how many spots moved from a to b, which is by the
// placements, and that as many move back.
func checkBothWays(t *testing.T, keys []uint64, a, b []api.Host, many, want int) {
	t.Helper()
	if got := slowMoved(t, keys, a, b, many); got != want {
		t.Fatalf("from %v to %v move %d of %d spots of %d keys by the placements, want %d", a, b, got, many, len(keys), want)
	}
	checkMoved(t, keys, a, b, many, want)
	checkMoved(t, keys, b, a, many, want)
}

// Promise K2: numbers computed apart from the program, of the keys from 0 to
// 399, and of seven others.
func TestMoved(t *testing.T) {
	few := []uint64{0, 1, 2, 3, 1 << 40, 1 << 63, math.MaxUint64}
	without := slices.Delete(mixed(), 1, 2)
	with := append(mixed(), host(3, item(1, 10), item(2, 20)))
	device := changed(mixed(), 2, item(0, 60), item(api.MaxTime, 60), item(9, 60))
	heavier := changed(mixed(), 4, item(9, 0), item(8, 80))
	both := changed(mixed(), 4, item(9, 40), item(8, 40))
	other := changed(mixed(), 4, item(9, 40))
	for _, c := range []struct {
		hosts           []api.Host
		many, all, some int
	}{
		{mixed(), 1, 0, 0}, {mixed(), 4, 0, 0}, {without, 0, 0, 0}, {without, 1, 174, 2}, {without, 2, 307, 6}, {without, 3, 386, 6},
		{with, 1, 50, 1}, {with, 2, 115, 1}, {with, 3, 206, 2}, {with, 4, 343, 5}, {device, 1, 47, 2}, {device, 2, 97, 3}, {device, 3, 120, 4},
		{device, 4, 125, 4}, {heavier, 1, 45, 0}, {heavier, 2, 82, 3}, {heavier, 3, 29, 0}, {heavier, 4, 0, 0}, {both, 1, 75, 0},
		{both, 2, 152, 4}, {both, 4, 202, 4}, {other, 1, 61, 1}, {other, 2, 144, 2}, {other, 4, 400, 7}, {light(), 1, 400, 7}, {light(), 2, 800, 14},
		{shared(), 1, 400, 7}, {shared(), 3, 1200, 21},
	} {
		checkBothWays(t, firstKeys(400), mixed(), c.hosts, c.many, c.all)
		checkBothWays(t, few, mixed(), c.hosts, c.many, c.some)
	}
	checkMoved(t, few, growing(16), full(16), 15, 105)
	checkMoved(t, few, full(16), growing(16), 15, 105)
}

// Promise K2: placements compared spot by spot, for all pairs of hosts of many
// kinds.
func TestMovedByDefinition(t *testing.T) {
	list := [][]api.Host{
		light(), mixed(), shared(), equal(4, 3, 1), growing(5), growing(6), full(3), full(4), changed(full(4), 1, item(100, 100), item(101, 5)),
		changed(growing(6), 3, item(0, 50), item(1, 50)), {host(1, item(10, 5)), host(2, item(20, 5))}, {host(2, item(10, 5)), host(1, item(20, 5))},
	}
	for _, a := range list {
		for _, b := range list {
			for many := range min(heavy(a), heavy(b)) + 1 {
				checkMoved(t, keys(), a, b, many, slowMoved(t, keys(), a, b, many))
			}
		}
	}
}

// Promise K2: when a host goes, just its spots move, one for each key that has
// one, and when it comes back, these spots move to it.
func TestHostGoes(t *testing.T) {
	for _, hosts := range [][]api.Host{light(), mixed(), shared(), growing(7), full(4), equal(5, 2, 50)} {
		for i, h := range hosts {
			rest := slices.Delete(slices.Clone(hosts), i, i+1)
			for many := range heavy(rest) + 1 {
				checkBothWays(t, firstKeys(30), hosts, rest, many, placedOn(t, firstKeys(30), hosts, many, h.Id))
			}
			empty := changed(hosts, i, item(3, 0))
			many := heavy(empty)
			checkBothWays(t, firstKeys(30), hosts, empty, many, placedOn(t, firstKeys(30), hosts, many, h.Id))
		}
	}
}

// Promise K2: as long as a host weighs 100, a device that comes or becomes
// heavier only attracts spots of its own host, and one that goes loses its own.
func TestDeviceComes(t *testing.T) {
	was := changed(shared(), 1, item(5, 60), item(6, 60))
	for _, devices := range [][]api.Weighted{
		{item(5, 60), item(6, 60), item(9, 60)}, {item(5, 60), item(6, 60), item(9, 1)}, {item(5, 60), item(9, 100), item(6, 60)},
	} {
		now := changed(was, 1, devices...)
		for many := range 4 {
			want := 0
			for _, key := range firstKeys(200) {
				if slices.Contains(place(t, key, now, many), api.Spot{Host: 6, Device: 9}) {
					want++
				}
			}
			checkBothWays(t, firstKeys(200), was, now, many, want)
		}
	}
	heavier := changed(was, 1, item(5, 60), item(6, 100))
	for _, key := range firstKeys(200) {
		old, spots := place(t, key, was, 3), place(t, key, heavier, 3)
		for i, spot := range spots {
			if spot != old[i] && spot != (api.Spot{Host: 6, Device: 6}) {
				t.Errorf("key %d goes from %v to %v, as device 6 of host 6 becomes heavier", key, old, spots)
			}
		}
	}
	checkBothWays(t, firstKeys(200), was, heavier, 3, slowMoved(t, firstKeys(200), was, heavier, 3))
}

// Promise K2: spots that only change places do not move, nor do any when hosts
// and devices change places.
func TestOnlyOrder(t *testing.T) {
	a := []api.Host{host(1, item(1, 1)), host(2, item(2, 100))}
	b := []api.Host{host(1, item(1, 100)), host(2, item(2, 1))}
	turned := 0
	for _, key := range firstKeys(400) {
		if !slices.Equal(place(t, key, a, 2), place(t, key, b, 2)) {
			turned++
		}
	}
	if turned < 300 {
		t.Fatalf("only %d of 400 keys have their spots in another order", turned)
	}
	checkBothWays(t, firstKeys(400), a, b, 2, 0)
	checkBothWays(t, firstKeys(400), a, b, 1, turned)
	for _, hosts := range lists() {
		other := slices.Clone(hosts)
		slices.Reverse(other)
		for i, h := range other {
			other[i].Devices = slices.Clone(h.Devices)
			slices.Reverse(other[i].Devices)
		}
		checkBothWays(t, firstKeys(10), hosts, other, heavy(hosts), 0)
	}
}

// Promise K2: a spot is a device of a host: the same device of another host is
// another spot, and so is another device of the same host.
func TestOtherSpots(t *testing.T) {
	for _, c := range []struct {
		a, b       []api.Host
		many, want int
	}{
		{[]api.Host{host(1, item(7, 5))}, []api.Host{host(2, item(7, 5))}, 1, 1},
		{[]api.Host{host(1, item(7, 5))}, []api.Host{host(1, item(8, 5))}, 1, 1},
		{[]api.Host{host(1, item(7, 5))}, []api.Host{host(7, item(1, 5))}, 1, 1},
		{[]api.Host{host(1, item(7, 5))}, []api.Host{host(1, item(7, 100))}, 1, 0},
		{[]api.Host{host(1, item(7, 5))}, []api.Host{host(1, item(8, 0), item(7, 3)), host(4)}, 1, 0},
		{[]api.Host{host(1, item(7, 5)), host(2, item(8, 5))}, []api.Host{host(1, item(8, 5)), host(2, item(7, 5))}, 2, 2},
		{[]api.Host{host(1, item(7, 5)), host(2, item(8, 5))}, []api.Host{host(1, item(7, 5)), host(2, item(7, 5))}, 2, 1},
		{[]api.Host{host(1, item(7, 5)), host(2, item(8, 5))}, []api.Host{host(1, item(7, 5)), host(3, item(8, 5))}, 2, 1},
		{[]api.Host{host(1, item(1, 5)), host(2, item(2, 5))}, []api.Host{host(2, item(1, 5)), host(1, item(2, 5))}, 2, 2},
		{[]api.Host{host(1, item(1, 5)), host(2, item(2, 5))}, []api.Host{host(2, item(2, 5)), host(1, item(1, 5))}, 2, 0},
		{[]api.Host{host(0, item(0, 5))}, []api.Host{host(0, item(1, 5))}, 1, 1},
		{[]api.Host{host(0, item(0, 5))}, []api.Host{host(1, item(0, 5))}, 1, 1},
	} {
		for _, n := range []int{1, 2, 5, 400} {
			checkBothWays(t, firstKeys(n), c.a, c.b, c.many, n*c.want)
		}
	}
}

// Promise K2: each key counts, also one that occurs before; each is compared
// with itself, so that their order does not matter.
func TestEachKeyCounts(t *testing.T) {
	a, b := mixed(), slices.Delete(mixed(), 1, 2)
	sum := 0
	for _, key := range keys() {
		moved := slowMoved(t, []uint64{key}, a, b, 2)
		sum += moved
		checkMoved(t, []uint64{key}, a, b, 2, moved)
		checkMoved(t, []uint64{key, key, key}, a, b, 2, 3*moved)
		checkMoved(t, slices.Repeat([]uint64{key}, 400), a, b, 2, 400*moved)
	}
	turned := keys()
	slices.Reverse(turned)
	checkMoved(t, keys(), a, b, 2, sum)
	checkMoved(t, turned, a, b, 2, sum)
	checkMoved(t, append(turned, keys()...), a, b, 2, 2*sum)
}

// Promise K2: no spots move if none are asked for.
func TestNoSpots(t *testing.T) {
	for _, hosts := range lists() {
		checkMoved(t, keys(), hosts, light(), 0, 0)
		checkMoved(t, keys(), nil, hosts, 0, 0)
		checkMoved(t, keys(), hosts, []api.Host{}, 0, 0)
	}
}

// Promise K2: without keys there is nothing to place, and so nothing wrong.
func TestNoKeys(t *testing.T) {
	for _, none := range [][]uint64{nil, {}, firstKeys(3)[:0]} {
		for _, many := range anyNumbers() {
			checkMoved(t, none, mixed(), light(), many, 0)
			checkMoved(t, none, nil, nil, many, 0)
			checkMoved(t, none, []api.Host{host(1), host(1)}, []api.Host{host(-1)}, many, 0)
		}
	}
}

// Promise K2: up to 400 keys are few enough; that they are too many is found
// before anything else.
func TestTooManyKeys(t *testing.T) {
	a, b := []api.Host{host(1, item(7, 5))}, []api.Host{host(2, item(7, 5))}
	twice, far := []api.Host{host(1), host(1)}, []api.Host{host(1, item(1, 101))}
	for _, n := range []int{1, 2, 399, 400} {
		checkMoved(t, firstKeys(n), a, b, 1, n)
		checkNotMoved(t, firstKeys(n), a, twice, 1, api.ErrHeld)
		checkNotMoved(t, firstKeys(n), a, b, 2, api.ErrShort)
	}
	for _, n := range []int{401, 402, 500, 4000} {
		for _, many := range anyNumbers() {
			for _, hosts := range [][]api.Host{nil, a, b, twice, far} {
				checkNotMoved(t, firstKeys(n), hosts, b, many, api.ErrRange)
				checkNotMoved(t, firstKeys(n), a, hosts, many, api.ErrRange)
				checkNotMoved(t, make([]uint64, n), hosts, hosts, many, api.ErrRange)
			}
		}
	}
}

// Promise K2: what is wrong with either hosts is what Place says of them, even
// where both are the same.
func TestMovedNotValid(t *testing.T) {
	for want, list := range wrongHosts() {
		for _, hosts := range list {
			for _, many := range anyNumbers() {
				checkNotMoved(t, []uint64{4, 5}, hosts, mixed(), many, want)
				checkNotMoved(t, []uint64{4, 5}, hosts, hosts, many, want)
			}
			checkNotMoved(t, []uint64{4, 5}, mixed(), hosts, 4, want)
			checkNotMoved(t, []uint64{4}, nil, hosts, 0, want)
		}
	}
	for want, list := range wrongDevices() {
		for _, devices := range list {
			hosts := append(light(), host(9, devices...))
			checkNotMoved(t, []uint64{4, 5}, hosts, light(), 1, want)
			checkNotMoved(t, []uint64{4, 5}, light(), hosts, 1, want)
			checkNotMoved(t, []uint64{4, 5}, hosts, hosts, 17, want)
		}
	}
}

// Promise K2: all that is wrong for a comes before anything that is wrong for
// b: each of these is wrong with another error for the same number of spots.
func TestAFirst(t *testing.T) {
	hosts := map[api.Errno][]api.Host{
		api.OK: mixed(), api.ErrShort: light(), api.ErrRange: {host(1, item(1, 101))}, api.ErrHeld: {host(1, item(1, 1), item(1, 1))},
	}
	for first, a := range hosts {
		for second, b := range hosts {
			want := first
			if first == api.OK {
				want = second
			}
			for _, some := range [][]uint64{{0}, {3, 3}, firstKeys(30)} {
				if want == api.OK {
					checkMoved(t, some, a, b, 3, 0)
				} else {
					checkNotMoved(t, some, a, b, 3, want)
				}
			}
		}
	}
	for _, many := range []int{-1, 17, math.MinInt, math.MaxInt} {
		checkNotMoved(t, []uint64{1}, mixed(), hosts[api.ErrHeld], many, api.ErrRange)
		checkNotMoved(t, []uint64{1}, nil, hosts[api.ErrHeld], many, api.ErrRange)
		checkNotMoved(t, []uint64{1}, hosts[api.ErrHeld], mixed(), many, api.ErrHeld)
		checkNotMoved(t, []uint64{1}, mixed(), mixed(), many, api.ErrRange)
	}
	checkNotMoved(t, []uint64{1}, nil, hosts[api.ErrHeld], 1, api.ErrShort)
	checkNotMoved(t, []uint64{1}, nil, hosts[api.ErrHeld], 0, api.ErrHeld)
	checkNotMoved(t, []uint64{1}, mixed(), nil, 1, api.ErrShort)
}
