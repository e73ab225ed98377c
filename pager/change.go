package pager

import (
	"maps"
	"slices"
	"strings"

	"cahier/api"
	"cahier/head"
)

// state is a database as a transaction has it: its head, and the pages that it has put.
type state struct {
	head  api.Head
	pages map[int]api.Page
}

// change is a transaction. All that it puts stays in memory till it is committed: until then the disk knows nothing of it.
type change struct {
	state
	saves []state
	made  bool // a Put, New, Free, Root or Reset was OK, be it taken back or not
}

// begin: the transaction of a database with this head.
func begin(h api.Head) *change {
	return &change{state: state{head: h, pages: map[int]api.Page{}}}
}

// put: a page is data.
func (c *change) put(n int, data string) {
	// The bytes may be a part of something greater, which must not stay for their sake.
	c.pages[n] = api.Page{N: n, Data: strings.Clone(data)}
	c.made = true
}

// turn: the head is another one.
func (c *change) turn(h api.Head) {
	c.head = h
	c.made = true
}

// save: a savepoint more, of what there is now.
func (c *change) save() {
	c.saves = append(c.saves, c.copied())
}

// back: all is as it was at the savepoint k, which stays.
func (c *change) back(k int) {
	c.state = c.saves[k-1].copied()
	c.release(k + 1)
}

// release: the savepoint k and those behind it are gone.
func (c *change) release(k int) {
	c.saves = slices.Delete(c.saves, k-1, len(c.saves))
}

// copied: a state that goes on by itself.
func (s state) copied() state {
	return state{head: s.head, pages: maps.Clone(s.pages)}
}

// list: what there is to write, rising by the numbers: the head is the page 0.
func (s state) list() ([]api.Page, api.Errno) {
	first, e := head.Encode(s.head)
	if e != api.OK {
		return nil, e
	}
	return append([]api.Page{{Data: first}}, s.rising()...), api.OK
}

// rising: the pages that were put, rising by their numbers.
func (s state) rising() []api.Page {
	var pages []api.Page
	for _, n := range slices.Sorted(maps.Keys(s.pages)) {
		pages = append(pages, s.pages[n])
	}
	return pages
}
