package crush_test

import (
	"math"
	"slices"
	"testing"

	"strawloft/api"
	"strawloft/crush"
	"strawloft/mix"
	"strawloft/straw"
)

// item is a device, in fewer words.
func item(id, weight int) api.Weighted {
	return api.Weighted{Id: id, Weight: weight}
}

// host is a host, in fewer words.
func host(id int, devices ...api.Weighted) api.Host {
	return api.Host{Id: id, Devices: devices}
}

// spotsOf is a list of spots: of each one its host, and then its device.
func spotsOf(numbers ...int) []api.Spot {
	var list []api.Spot
	for pair := range slices.Chunk(numbers, 2) {
		list = append(list, api.Spot{Host: pair[0], Device: pair[1]})
	}
	return list
}

// weighing is n devices that weigh the same.
func weighing(n, weight int) []api.Weighted {
	var devices []api.Weighted
	for i := range n {
		devices = append(devices, item(i, weight))
	}
	return devices
}

// light is two hosts that weigh less than 100, and one without devices.
func light() []api.Host {
	return []api.Host{host(1, item(10, 5)), host(2, item(20, 5), item(21, 10)), host(3)}
}

// mixed is a host that weighs little, one that weighs 100, one that weighs
// more, one that weighs nothing, and one with a device that weighs nothing.
func mixed() []api.Host {
	return []api.Host{
		host(0, item(0, 1), item(1, 2), item(2, 4)), host(7, item(0, 100)),
		host(api.MaxTime, item(0, 60), item(api.MaxTime, 60)), host(4, item(5, 0), item(6, 0)), host(2, item(9, 0), item(8, 40)),
	}
}

// shared is hosts with devices of the same ids, which weigh more than 100, 100
// and less.
func shared() []api.Host {
	return []api.Host{
		host(5, item(5, 100), item(6, 100), item(7, 100)), host(6, item(5, 33), item(6, 33), item(7, 34)),
		host(1<<32, item(5, 1), item(6, 1), item(7, 1)),
	}
}

// growing is n hosts, each with one device more than the one before it.
func growing(n int) []api.Host {
	var hosts []api.Host
	for i := range n {
		var devices []api.Weighted
		for j := range i {
			devices = append(devices, item(j, (7*i+3*j)%101))
		}
		hosts = append(hosts, host(i*i, devices...))
	}
	return hosts
}

// full is n hosts with 16 devices each, all of which weigh more than 100.
func full(n int) []api.Host {
	var hosts []api.Host
	for i := range n {
		var devices []api.Weighted
		for j := range 16 {
			devices = append(devices, item(100+j, 25*(1+j%4)))
		}
		hosts = append(hosts, host(50-i, devices...))
	}
	return hosts
}

// equal is n hosts that weigh the same, with devices that weigh the same.
func equal(n, devices, weight int) []api.Host {
	var hosts []api.Host
	for i := range n {
		hosts = append(hosts, host(api.MaxTime-3*i, weighing(devices, weight)...))
	}
	return hosts
}

// lists is valid lists of hosts of many kinds.
func lists() [][]api.Host {
	list := [][]api.Host{
		{}, light(), mixed(), shared(), {host(0)}, {host(api.MaxTime)}, {host(0, item(0, 1))}, {host(9, item(9, 100), item(8, 0))},
		{host(api.MaxTime, item(api.MaxTime, 100))}, {host(1), host(2), host(3)}, {host(1, item(1, 0)), host(2, item(1, 0), item(2, 0))},
		{host(1, item(7, 1)), host(2, item(7, 1))}, {host(2, item(7, 1)), host(1), host(3, item(7, 0))},
		equal(4, 3, 1), equal(5, 2, 50), equal(3, 5, 20), equal(16, 1, 100), equal(16, 0, 0), equal(16, 16, 0),
	}
	for _, n := range []int{1, 2, 3, 8, 15, 16} {
		list = append(list, growing(n), full(n))
	}
	return list
}

// keys is keys of many kinds.
func keys() []uint64 {
	list := []uint64{0, 1, 2, 3, 1 << 32, 1 << 40, 1<<63 - 1, 1 << 63, math.MaxUint64 - 1, math.MaxUint64}
	for n := range uint64(5) {
		list = append(list, 4+n*n*n, mix.One(n+9))
	}
	return list
}

// weights is the hosts with their weights, by the chapter.
func weights(hosts []api.Host) []api.Weighted {
	var l []api.Weighted
	for _, h := range hosts {
		weight := 0
		for _, d := range h.Devices {
			weight += d.Weight
		}
		if weight > 100 {
			weight = 100
		}
		l = append(l, item(h.Id, weight))
	}
	return l
}

// heavy is how many hosts weigh anything.
func heavy(hosts []api.Host) int {
	n := 0
	for _, w := range weights(hosts) {
		if w.Weight > 0 {
			n++
		}
	}
	return n
}

// slowPlace is the spots of a key on all hosts that weigh anything, by the
// chapter: straw.Some selects the hosts, and straw.Choose their devices.
func slowPlace(t *testing.T, key uint64, hosts []api.Host) []api.Spot {
	t.Helper()
	ids, err := straw.Some(key, weights(hosts), heavy(hosts))
	if err != api.OK {
		t.Fatalf("straw.Some(%#x, %v, %d) has error %d", key, weights(hosts), heavy(hosts), err)
	}
	devices := map[int][]api.Weighted{}
	for _, h := range hosts {
		devices[h.Id] = h.Devices
	}
	var spots []api.Spot
	for _, id := range ids {
		device, err := straw.Choose(mix.Two(key, uint64(id)), devices[id])
		if err != api.OK {
			t.Fatalf("straw.Choose of %v has error %d", devices[id], err)
		}
		spots = append(spots, api.Spot{Host: id, Device: device})
	}
	return spots
}

// wrongDevices is devices of a host that are not valid, with what is wrong
// with them first.
func wrongDevices() map[api.Errno][][]api.Weighted {
	return map[api.Errno][][]api.Weighted{
		api.ErrRange: {
			weighing(17, 1), weighing(17, 0), weighing(400, 5), make([]api.Weighted, 17), {item(-1, 1)}, {item(api.MaxTime+1, 1)},
			{item(math.MinInt, 0)}, {item(math.MaxInt, 0)}, {item(4, 101)}, {item(4, -1)}, {item(4, math.MaxInt)}, {item(4, math.MinInt)},
			{item(4, math.MaxInt), item(5, math.MaxInt), item(6, 2)}, {item(4, 50), item(5, -50)}, {item(4, 1), item(5, 101), item(4, 1)},
			{item(4, 1), item(4, 101)}, append(weighing(15, 6), item(15, 101)), append(weighing(15, 6), item(-15, 1)),
		},
		api.ErrHeld: {
			{item(4, 1), item(4, 1)}, {item(0, 0), item(0, 0)}, {item(4, 1), item(4, 100)}, {item(4, 1), item(4, 1), item(5, 101)},
			{item(api.MaxTime, 2), item(1, 2), item(api.MaxTime, 2)}, append(weighing(15, 6), item(14, 6)), make([]api.Weighted, 16),
		},
	}
}

// wrongHosts is hosts that are not valid although the devices of each one are,
// with what is wrong with them first.
func wrongHosts() map[api.Errno][][]api.Host {
	a, b := item(8, 3), item(9, 100)
	return map[api.Errno][][]api.Host{
		api.ErrRange: {
			growing(17), equal(17, 0, 0), equal(17, 2, 50), equal(400, 1, 1), make([]api.Host, 17), {host(-1, a)}, {host(-1)},
			{host(api.MaxTime+1, a, b)}, {host(math.MinInt, a)}, {host(math.MaxInt)}, {host(-1, a), host(-1, b)}, {host(1, a), host(-2, a), host(1, a)},
			{host(1, a), host(2, b), host(api.MaxTime + 1), host(2, a)}, append(full(15), host(-1, a)), append(growing(16), host(0, a)),
		},
		api.ErrHeld: {
			{host(1), host(1)}, {host(0, a), host(0, a)}, {host(1, a), host(1, b)}, {host(1, a), host(2, a), host(1)}, {host(1), host(2), host(1, a)},
			{host(1, a), host(1, a), host(-1, a)}, {host(api.MaxTime, a), host(3, a), host(api.MaxTime, b)}, {host(4, a), host(4, a), host(api.MaxTime + 1)},
			append(full(15), host(50, a)), make([]api.Host, 16),
		},
	}
}

// anyNumbers is numbers of spots of all kinds.
func anyNumbers() []int {
	return []int{0, 1, 2, 3, 15, 16, 17, 18, 400, 1 << 32, math.MaxInt, -1, -2, -16, math.MinInt}
}

// checkWrong checks what is wrong with hosts.
func checkWrong(t *testing.T, hosts []api.Host, want api.Errno) {
	t.Helper()
	if got := crush.Wrong(hosts); got != want {
		t.Errorf("Wrong(%v) is %d, want %d", hosts, got, want)
	}
}

// checkPlace checks the spots, as many as are wanted, without an error.
func checkPlace(t *testing.T, key uint64, hosts []api.Host, want []api.Spot) {
	t.Helper()
	if got, err := crush.Place(key, hosts, len(want)); !slices.Equal(got, want) || err != api.OK {
		t.Errorf("Place(%#x, %v, %d) is %v, %d, want %v, OK", key, hosts, len(want), got, err, want)
	}
}

// checkNoPlace checks that Place has no spots, but an error.
func checkNoPlace(t *testing.T, key uint64, hosts []api.Host, many int, want api.Errno) {
	t.Helper()
	if got, err := crush.Place(key, hosts, many); len(got) != 0 || err != want {
		t.Errorf("Place(%#x, %v, %d) is %v, %d, want none, %d", key, hosts, many, got, err, want)
	}
}

// checkNotValid checks that Wrong says what is wrong with hosts, and Place too,
// whatever the number of spots.
func checkNotValid(t *testing.T, hosts []api.Host, want api.Errno) {
	t.Helper()
	checkWrong(t, hosts, want)
	for _, many := range anyNumbers() {
		checkNoPlace(t, 5, hosts, many, want)
	}
}

// checkAll checks the spots on all hosts that weigh anything, and on none, with
// an error for one more.
func checkAll(t *testing.T, key uint64, hosts []api.Host, want []api.Spot) {
	t.Helper()
	checkPlace(t, key, hosts, nil)
	checkPlace(t, key, hosts, want)
	if len(want) < api.MaxNode {
		checkNoPlace(t, key, hosts, len(want)+1, api.ErrShort)
	}
}

// Promise K1: up to 16 different hosts with up to 16 different devices each are
// valid, whatever they weigh.
func TestWrong(t *testing.T) {
	checkWrong(t, nil, api.OK)
	for _, hosts := range lists() {
		checkWrong(t, hosts, api.OK)
	}
	for _, id := range []int{0, 1, 1 << 32, api.MaxTime - 1, api.MaxTime} {
		for weight := range 101 {
			checkWrong(t, []api.Host{host(id, item(0, weight))}, api.OK)
			checkWrong(t, []api.Host{host(8, item(id, weight)), host(9, item(id, weight))}, api.OK)
		}
		checkWrong(t, []api.Host{host(id), host(8, weighing(16, 100)...), host(9)}, api.OK)
	}
}

// Promise K1: the devices of each host are checked, wherever it stands.
func TestWrongDevices(t *testing.T) {
	for want, list := range wrongDevices() {
		for _, devices := range list {
			if got := straw.Wrong(devices); got != want {
				t.Fatalf("straw.Wrong(%v) is %d, want %d", devices, got, want)
			}
			checkNotValid(t, []api.Host{host(9, devices...)}, want)
			for i := range 6 {
				checkNotValid(t, slices.Insert(mixed(), i, host(9, devices...)), want)
				checkWrong(t, slices.Insert(full(5), i, host(9, devices...)), want)
			}
		}
	}
}

// Promise K1: after the devices, the hosts are checked like items.
func TestWrongHosts(t *testing.T) {
	for want, list := range wrongHosts() {
		for _, hosts := range list {
			if got := straw.Wrong(weights(hosts)); got != want {
				t.Fatalf("straw.Wrong(%v) is %d, want %d", weights(hosts), got, want)
			}
			checkNotValid(t, hosts, want)
		}
	}
	for n := range 40 {
		want := api.OK
		if n > 16 {
			want = api.ErrRange
		}
		checkWrong(t, growing(n), want)
		checkWrong(t, equal(n, 0, 0), want)
		checkWrong(t, full(n), want)
	}
}

// Promise K1: an id that two hosts have, wherever they stand.
func TestWrongTwice(t *testing.T) {
	for n := 2; n <= api.MaxNode; n++ {
		for i := range n {
			for j := range i {
				hosts := growing(n)
				hosts[i].Id = hosts[j].Id
				checkWrong(t, hosts, api.ErrHeld)
				hosts[j].Devices = hosts[i].Devices
				checkWrong(t, hosts, api.ErrHeld)
				hosts[j].Id = -1
				checkWrong(t, hosts, api.ErrRange)
			}
		}
	}
}

// Promise K1: the devices of an earlier host are checked before those of a
// later one.
func TestEarlierHostsFirst(t *testing.T) {
	wrong := wrongDevices()
	for _, far := range wrong[api.ErrRange] {
		for _, twice := range wrong[api.ErrHeld] {
			checkNotValid(t, []api.Host{host(1, far...), host(2, twice...)}, api.ErrRange)
			checkNotValid(t, []api.Host{host(1, twice...), host(2, far...)}, api.ErrHeld)
			checkWrong(t, []api.Host{host(3), host(1, far...), host(4), host(2, twice...)}, api.ErrRange)
			checkWrong(t, []api.Host{host(3), host(1, twice...), host(4), host(2, far...)}, api.ErrHeld)
			checkWrong(t, append(full(14), host(1, far...), host(2, twice...)), api.ErrRange)
			checkWrong(t, append(full(14), host(1, twice...), host(2, far...)), api.ErrHeld)
		}
	}
}

// Promise K1: the devices of all hosts are checked before the hosts: also those
// of hosts behind one that is wrong, and of the last one of too many.
func TestDevicesBeforeHosts(t *testing.T) {
	wrong, bad := wrongDevices(), wrongHosts()
	for _, twice := range wrong[api.ErrHeld] {
		for _, hosts := range bad[api.ErrRange] {
			checkNotValid(t, append(slices.Clone(hosts), host(77, twice...)), api.ErrHeld)
			checkWrong(t, slices.Insert(slices.Clone(hosts), 0, host(77, twice...)), api.ErrHeld)
		}
		checkNotValid(t, []api.Host{host(-1, twice...)}, api.ErrHeld)
	}
	for _, far := range wrong[api.ErrRange] {
		for _, hosts := range bad[api.ErrHeld] {
			checkNotValid(t, append(slices.Clone(hosts), host(77, far...)), api.ErrRange)
			checkWrong(t, slices.Insert(slices.Clone(hosts), 0, host(77, far...)), api.ErrRange)
		}
		checkNotValid(t, []api.Host{host(1, item(3, 3)), host(1, far...)}, api.ErrRange)
	}
}

// Promise K1: a host weighs as much as its devices, but at most 100: its place
// among others is that of an item with this weight.
func TestHostWeights(t *testing.T) {
	for _, c := range []struct {
		devices []api.Weighted
		want    int
	}{
		{nil, 0}, {weighing(1, 0), 0}, {weighing(16, 0), 0}, {weighing(1, 1), 1}, {weighing(16, 1), 16}, {weighing(2, 30), 60},
		{weighing(3, 33), 99}, {append(weighing(3, 33), item(3, 0)), 99}, {weighing(1, 99), 99}, {append(weighing(3, 33), item(3, 1)), 100},
		{weighing(1, 100), 100}, {weighing(2, 50), 100}, {weighing(4, 25), 100}, {append(weighing(1, 100), item(1, 0)), 100},
		{append(weighing(3, 33), item(3, 2)), 100}, {append(weighing(1, 100), item(1, 1)), 100}, {weighing(2, 51), 100}, {weighing(2, 100), 100},
		{weighing(16, 7), 100}, {weighing(16, 100), 100},
	} {
		list := weights([]api.Host{host(50, c.devices...)})
		if !slices.Equal(list, []api.Weighted{item(50, c.want)}) {
			t.Fatalf("the weight of %v is %v, want %d", c.devices, list, c.want)
		}
		hosts := append(mixed(), host(50, c.devices...))
		alike := []api.Weighted{item(0, 7), item(7, 100), item(api.MaxTime, 100), item(4, 0), item(2, 40), item(50, c.want)}
		for key := range uint64(60) {
			checkHosts(t, key, hosts, alike)
		}
	}
}

// checkHosts checks that the hosts of the spots are the items of straw.Some.
func checkHosts(t *testing.T, key uint64, hosts []api.Host, alike []api.Weighted) {
	t.Helper()
	many := heavy(hosts)
	want, err := straw.Some(key, alike, many)
	if err != api.OK {
		t.Fatalf("straw.Some(%#x, %v, %d) has error %d", key, alike, many, err)
	}
	spots, err := crush.Place(key, hosts, many)
	var got []int
	for _, spot := range spots {
		got = append(got, spot.Host)
	}
	if !slices.Equal(got, want) || err != api.OK {
		t.Errorf("Place(%#x, %v, %d) has hosts %v, %d, want %v", key, hosts, many, got, err, want)
	}
	checkNoPlace(t, key, hosts, many+1, api.ErrShort)
}

// Promise K1: spots computed apart from the program.
func TestPlace(t *testing.T) {
	const far = api.MaxTime
	for _, c := range []struct {
		key   uint64
		hosts []api.Host
		want  []api.Spot
	}{
		{0, light(), spotsOf(1, 10, 2, 21)}, {1, light(), spotsOf(1, 10, 2, 21)}, {2, light(), spotsOf(2, 20, 1, 10)},
		{3, light(), spotsOf(2, 20, 1, 10)}, {1 << 40, light(), spotsOf(1, 10, 2, 21)},
		{1 << 63, light(), spotsOf(2, 20, 1, 10)}, {math.MaxUint64, light(), spotsOf(1, 10, 2, 20)},
		{0, mixed(), spotsOf(far, far, 7, 0, 2, 8, 0, 1)}, {1, mixed(), spotsOf(far, 0, 7, 0, 2, 8, 0, 0)},
		{2, mixed(), spotsOf(7, 0, far, 0, 2, 8, 0, 2)}, {3, mixed(), spotsOf(2, 8, 7, 0, far, far, 0, 2)},
		{1 << 40, mixed(), spotsOf(far, 0, 7, 0, 2, 8, 0, 2)}, {1 << 63, mixed(), spotsOf(7, 0, 2, 8, far, far, 0, 2)},
		{math.MaxUint64, mixed(), spotsOf(0, 2, far, 0, 2, 8, 7, 0)},
		{0, shared(), spotsOf(6, 7, 5, 5, 1<<32, 5)}, {1, shared(), spotsOf(5, 5, 6, 5, 1<<32, 5)},
		{2, shared(), spotsOf(5, 7, 6, 6, 1<<32, 6)}, {3, shared(), spotsOf(5, 5, 6, 7, 1<<32, 5)},
		{1 << 40, shared(), spotsOf(5, 6, 6, 7, 1<<32, 7)}, {1 << 63, shared(), spotsOf(5, 7, 6, 7, 1<<32, 5)},
		{math.MaxUint64, shared(), spotsOf(6, 7, 5, 6, 1<<32, 7)},
		{0, growing(16), spotsOf(100, 3, 36, 4, 49, 6, 225, 6, 81, 0, 25, 1, 9, 2, 196, 2, 16, 0, 64, 2, 121, 6, 169, 3, 144, 10, 4, 1, 1, 0)},
		{math.MaxUint64, growing(16), spotsOf(16, 3, 121, 7, 225, 14, 25, 0, 100, 8, 49, 4, 196, 7, 64, 5, 169, 2, 81, 0, 36, 2, 1, 0, 144, 5, 4, 0, 9, 2)},
		{2, full(16), spotsOf(
			48, 103, 50, 109, 45, 106, 42, 102, 46, 108, 41, 106, 49, 109, 35, 114, 39, 110, 44, 114,
			40, 109, 47, 106, 43, 111, 37, 102, 36, 108, 38, 103,
		)},
		{1 << 63, full(16), spotsOf(
			36, 108, 45, 114, 42, 110, 49, 115, 44, 108, 50, 104, 47, 110, 39, 103, 43, 105, 41, 101,
			37, 113, 48, 102, 46, 108, 40, 105, 38, 110, 35, 103,
		)},
	} {
		checkAll(t, c.key, c.hosts, c.want)
		for many := range c.want {
			checkPlace(t, c.key, c.hosts, c.want[:many])
		}
	}
}

// Promise K1: many hosts and keys, by the chapter.
func TestPlaceByDefinition(t *testing.T) {
	for _, hosts := range lists() {
		for _, key := range keys() {
			checkAll(t, key, hosts, slowPlace(t, key, hosts))
		}
	}
	for _, hosts := range [][]api.Host{light(), mixed(), shared(), equal(4, 3, 1)} {
		for key := range uint64(500) {
			checkAll(t, key, hosts, slowPlace(t, key, hosts))
		}
	}
}

// Promise K1: from 0 spots to as many as hosts that weigh anything may be had;
// others up to 16 are too many, and all other numbers are wrong, even if there
// are not enough hosts.
func TestMany(t *testing.T) {
	for _, hosts := range lists() {
		all := slowPlace(t, 6, hosts)
		for many := range api.MaxNode + 1 {
			if many <= len(all) {
				checkPlace(t, 6, hosts, all[:many])
			} else {
				checkNoPlace(t, 6, hosts, many, api.ErrShort)
			}
		}
		for _, many := range []int{17, 18, 400, 1 << 32, 1<<32 + 1, math.MaxInt, -1, -2, -16, -17, math.MinInt} {
			checkNoPlace(t, 6, hosts, many, api.ErrRange)
		}
	}
}

// Promise K1: no hosts, and hosts that weigh nothing, have no spots.
func TestNothing(t *testing.T) {
	for _, hosts := range [][]api.Host{nil, {}, {host(0)}, equal(16, 0, 0), equal(16, 16, 0), {host(1), host(2, item(2, 0)), host(3)}} {
		for _, key := range keys() {
			checkPlace(t, key, hosts, nil)
			for many := 1; many <= api.MaxNode; many++ {
				checkNoPlace(t, key, hosts, many, api.ErrShort)
			}
			checkNoPlace(t, key, hosts, -1, api.ErrRange)
			checkNoPlace(t, key, hosts, 17, api.ErrRange)
		}
	}
}

// Promise K1: hosts and devices that weigh nothing change nothing.
func TestIdle(t *testing.T) {
	for _, hosts := range [][]api.Host{light(), mixed(), shared(), growing(9), equal(4, 3, 50)} {
		idle := slices.Insert(slices.Clone(hosts), 1, host(98), host(99, weighing(5, 0)...))
		for i, h := range idle {
			idle[i].Devices = slices.Insert(slices.Clone(h.Devices), 0, item(77, 0))
		}
		for _, key := range keys() {
			checkAll(t, key, idle, slowPlace(t, key, hosts))
		}
	}
}

// Promise K1: no two spots share a host, and each device is one of its host
// that weighs anything.
func TestDifferentHosts(t *testing.T) {
	for _, hosts := range lists() {
		devices := map[int][]api.Weighted{}
		for _, h := range hosts {
			devices[h.Id] = h.Devices
		}
		for _, key := range keys() {
			spots, err := crush.Place(key, hosts, heavy(hosts))
			seen := map[int]bool{}
			for _, spot := range spots {
				chosen := func(d api.Weighted) bool { return d.Id == spot.Device && d.Weight > 0 }
				if seen[spot.Host] || !slices.ContainsFunc(devices[spot.Host], chosen) {
					t.Errorf("Place(%#x, %v, %d) has the spot %v, in %v", key, hosts, heavy(hosts), spot, spots)
				}
				seen[spot.Host] = true
			}
			if len(seen) != heavy(hosts) || err != api.OK {
				t.Errorf("Place(%#x, %v, %d) is %v, %d", key, hosts, heavy(hosts), spots, err)
			}
		}
	}
}

// Promise K1: among hosts of equal weight and devices of equal weight, the
// greatest draws come first: of the key for the hosts, and of the key mixed with
// the host's id for its devices.
func TestByDraws(t *testing.T) {
	for _, hosts := range [][]api.Host{equal(4, 3, 1), equal(16, 4, 25), equal(7, 16, 100), equal(16, 16, 3), equal(2, 1, 50)} {
		for key := range uint64(30) {
			spots, err := crush.Place(key, hosts, len(hosts))
			if len(spots) != len(hosts) || err != api.OK {
				t.Fatalf("Place(%#x, %v, %d) is %v, %d", key, hosts, len(hosts), spots, err)
			}
			for i, spot := range spots {
				if i > 0 && straw.Draw(key, spots[i-1].Host) < straw.Draw(key, spot.Host) {
					t.Errorf("key %d has host %d before host %d, which draws more", key, spots[i-1].Host, spot.Host)
				}
				inner := mix.Two(key, uint64(spot.Host))
				for _, d := range hosts[0].Devices {
					if straw.Draw(inner, d.Id) > straw.Draw(inner, spot.Device) {
						t.Errorf("key %d has device %d on host %d, but device %d draws more", key, spot.Device, spot.Host, d.Id)
					}
				}
			}
		}
	}
}

// Promise K1: devices with the same ids on different hosts are chosen apart
// from each other, also from a host with the same id.
func TestApart(t *testing.T) {
	hosts := []api.Host{host(1, item(1, 10), item(2, 10)), host(2, item(1, 10), item(2, 10))}
	had := map[[3]int]int{}
	for key := range uint64(8000) {
		spots, err := crush.Place(key, hosts, 2)
		if len(spots) != 2 || err != api.OK {
			t.Fatalf("Place(%#x, %v, 2) is %v, %d", key, hosts, spots, err)
		}
		had[[3]int{spots[0].Host, spots[0].Device, spots[1].Device}]++
	}
	for kind, n := range had {
		if n < 850 || n > 1150 {
			t.Errorf("the first host and both devices are %v for %d of 8000 keys, want about 1000", kind, n)
		}
	}
	if len(had) != 8 {
		t.Errorf("only %v occur", had)
	}
}

// Promise K1: hosts are selected about as often as their weights say, up to
// 100, and devices as theirs say.
func TestShares(t *testing.T) {
	hosts := []api.Host{host(1, item(1, 10), item(2, 40)), host(2, item(1, 100), item(2, 100), item(3, 50), item(4, 0)), host(3, item(1, 50))}
	had := map[[2]int]int{}
	for key := range uint64(20000) {
		spots, err := crush.Place(key, hosts, 1)
		if len(spots) != 1 || err != api.OK {
			t.Fatalf("Place(%#x, %v, 1) is %v, %d", key, hosts, spots, err)
		}
		had[[2]int{spots[0].Host, spots[0].Device}]++
	}
	want := map[[2]int]int{{1, 1}: 1000, {1, 2}: 4000, {2, 1}: 4000, {2, 2}: 4000, {2, 3}: 2000, {3, 1}: 5000}
	for spot, n := range want {
		if had[spot] < n-200 || had[spot] > n+200 {
			t.Errorf("spot %v has %d of 20000 keys, want about %d", spot, had[spot], n)
		}
	}
	if len(had) != len(want) {
		t.Errorf("the spots are %v", had)
	}
}

// Promise K1: neither the order of the hosts nor that of the devices matters.
func TestAnyOrder(t *testing.T) {
	for _, hosts := range lists() {
		turned := slices.Clone(hosts)
		for i, h := range hosts {
			turned[i].Devices = slices.Clone(h.Devices)
			slices.Reverse(turned[i].Devices)
		}
		for _, key := range []uint64{0, 7, math.MaxUint64} {
			want := slowPlace(t, key, hosts)
			checkAll(t, key, turned, want)
			for range min(len(hosts), 4) {
				turned = append(turned[1:], turned[0])
				checkAll(t, key, turned, want)
			}
		}
	}
}

// deep is a copy of hosts that shares no memory, with spare capacity that holds
// something else.
func deep(hosts []api.Host) []api.Host {
	whole := append(slices.Clone(hosts), host(-1), host(7, item(7, 3)), host(7, item(-1, 101)))
	for i, h := range whole {
		whole[i].Devices = append(slices.Clone(h.Devices), item(-1, 1), item(api.MaxTime, 100))[:len(h.Devices)]
	}
	return whole[:len(hosts)]
}

// spread is all hosts and devices that memory has for a list.
func spread(hosts []api.Host) ([]int, []api.Weighted) {
	var ids []int
	var devices []api.Weighted
	for _, h := range hosts[:cap(hosts)] {
		ids = append(ids, h.Id, len(h.Devices))
		devices = append(devices, h.Devices[:cap(h.Devices)]...)
	}
	return ids, devices
}

// Promise AA2: arguments stay as they are, with what lies behind them, which
// does not matter.
func TestArgumentsStay(t *testing.T) {
	for _, hosts := range lists() {
		mine := deep(hosts)
		ids, devices := spread(mine)
		checkWrong(t, mine, api.OK)
		for _, key := range []uint64{0, 3, math.MaxUint64} {
			checkAll(t, key, mine, slowPlace(t, key, hosts))
		}
		checkMoved(t, []uint64{1, 2}, mine, mine, heavy(hosts), 0)
		idsNow, devicesNow := spread(mine)
		if !slices.Equal(ids, idsNow) || !slices.Equal(devices, devicesNow) {
			t.Errorf("the hosts %v became %v, with %v", hosts, mine, devicesNow)
		}
	}
	keys := []uint64{9, 5, 7, 5, 8}
	checkMoved(t, keys[:3], mixed(), light(), 1, 3)
	if !slices.Equal(keys, []uint64{9, 5, 7, 5, 8}) {
		t.Errorf("the keys became %v", keys)
	}
	checkMoved(t, firstKeys(500)[:400], mixed(), light(), 1, 400)
}

// Promises AA1 and AA2: results are new, and calls give the same ones again.
func TestResultsAreNew(t *testing.T) {
	for _, hosts := range lists() {
		mine, want := deep(hosts), slowPlace(t, 2, hosts)
		first, _ := crush.Place(2, mine, len(want))
		second, _ := crush.Place(2, mine, len(want))
		clear(first[:cap(first)])
		if !slices.Equal(second, want) {
			t.Errorf("Place of %v has results that share memory", hosts)
		}
		for _, h := range mine {
			clear(h.Devices)
		}
		clear(mine)
		if !slices.Equal(second, want) {
			t.Errorf("Place of %v changed with the hosts", hosts)
		}
		checkAll(t, 2, hosts, want)
	}
}
