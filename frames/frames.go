// Package frames: memory, in frames of words.
package frames

import "almshouse/api"

// frame is an array, not a slice: an assignment copies all its words, and no two frames share any.
type frame [api.Words]int64

// Memory has frames, each of Words words.
type Memory struct {
	frames []frame
}

// New is memory of so many frames, all 0. ErrRange: not 1 to MaxFrames.
func New(n int) (_ *Memory, _ error) {
	if n < 1 || n > api.MaxFrames {
		return nil, api.ErrRange
	}
	return &Memory{frames: make([]frame, n)}, nil
}

// Len is how many frames there are.
func (m *Memory) Len() (_ int) {
	if m == nil { // what New refused has no frames: all that is asked of it is out of range, and nothing panics
		return 0
	}
	return len(m.frames)
}

// Get is a word of a frame. ErrRange.
func (m *Memory) Get(f, w int) (_ int64, _ error) {
	if !m.hasFrame(f) || !hasWord(w) {
		return 0, api.ErrRange
	}
	return m.frames[f][w], nil
}

// Set changes a word. ErrRange.
func (m *Memory) Set(f, w int, v int64) (_ error) {
	if !m.hasFrame(f) || !hasWord(w) {
		return api.ErrRange
	}
	m.frames[f][w] = v
	return nil
}

// Zero makes a frame's words 0. ErrRange.
func (m *Memory) Zero(f int) (_ error) {
	if !m.hasFrame(f) {
		return api.ErrRange
	}
	m.frames[f] = frame{}
	return nil
}

// Copy makes a frame's words those of another one. ErrRange.
func (m *Memory) Copy(to, from int) (_ error) {
	if !m.hasFrame(to) || !m.hasFrame(from) {
		return api.ErrRange
	}
	m.frames[to] = m.frames[from]
	return nil
}

func (m *Memory) hasFrame(f int) bool { return f >= 0 && f < m.Len() }

func hasWord(w int) bool { return w >= 0 && w < api.Words }
